package scheds

import (
	"bytes"
	"encoding/binary"
	"math"
	"slices"
	"strings"
	"testing"

	"countwheel/api"
	"countwheel/fault"
	"countwheel/reader"
)

// most is the greatest number of ticks.
const most = 1 << 20

// some are schedules that may be, in their order: the edges of all that they have.
var some = []api.Schedule{
	{Id: 0, Frame: 10, Windows: []api.Window{{Id: 3, Length: 4}}},
	{Id: 1, Frame: 1},
	{Id: 2, Frame: most, Windows: []api.Window{{Id: 255, Offset: most, Length: most}, {}}, Needs: []api.Need{{Id: 255, Period: most, Budget: most}, {}}},
	{Id: 127, Frame: 0x01020, Windows: manyWindows(3), Needs: manyNeeds(2)},
	{Id: 128, Frame: 7, Windows: manyWindows(255), Needs: manyNeeds(31)},
	{Id: 255, Frame: most - 1, Windows: manyWindows(256), Needs: manyNeeds(32)},
}

// manyWindows are n windows that differ.
func manyWindows(n int) []api.Window {
	l := make([]api.Window, n)
	for i := range l {
		l[i] = api.Window{Id: i % 256, Offset: (i*0x10203 + 5) % most, Length: (i*0x30201 + 6) % most}
	}
	return l
}

// manyNeeds are n needs that differ.
func manyNeeds(n int) []api.Need {
	l := make([]api.Need, n)
	for i := range l {
		l[i] = api.Need{Id: (i + 9) % 256, Period: (i*0x10305 + 7) % most, Budget: (i*0x20701 + 8) % most}
	}
	return l
}

// text is schedules' bytes, told another way; what doesn't fit is cut.
func text(l []api.Schedule) string {
	var b []byte
	four := func(v int) { b = binary.BigEndian.AppendUint32(b, uint32(v)) }
	for _, x := range l {
		b = append(b, byte(x.Id))
		four(x.Frame)
		b = binary.BigEndian.AppendUint16(b, uint16(len(x.Windows)))
		for _, w := range x.Windows {
			b = append(b, byte(w.Id))
			four(w.Offset)
			four(w.Length)
		}
		b = append(b, byte(len(x.Needs)))
		for _, n := range x.Needs {
			b = append(b, byte(n.Id))
			four(n.Period)
			four(n.Budget)
		}
	}
	return string(b)
}

// equal tells whether two schedules are one, field by field.
func equal(a, b api.Schedule) bool {
	if a.Id != b.Id || a.Frame != b.Frame || len(a.Windows) != len(b.Windows) || len(a.Needs) != len(b.Needs) {
		return false
	}
	for i := range a.Windows {
		if a.Windows[i] != b.Windows[i] {
			return false
		}
	}
	for i := range a.Needs {
		if a.Needs[i] != b.Needs[i] {
			return false
		}
	}
	return true
}

// same tells whether lists are one.
func same(a, b []api.Schedule) bool { return slices.EqualFunc(a, b, equal) }

// deep is a list made anew, row by row.
func deep(l []api.Schedule) []api.Schedule {
	var c []api.Schedule
	for _, x := range l {
		x.Windows = append([]api.Window(nil), x.Windows...)
		x.Needs = append([]api.Need(nil), x.Needs...)
		c = append(c, x)
	}
	return c
}

// of is a fault of section 3.
func of(k api.Errno, at int) api.Fault { return api.Fault{Error: k, Section: 3, At: at} }

// read reads schedules out of a text in front of which other bytes were read, in another section.
func read(front, s string, n int) ([]api.Schedule, *reader.Reader, error) {
	r := reader.New(front + s)
	r.Enter(1)
	r.Text(len(front))
	l, e := Read(r, n)
	return l, r, e
}

// refused tells whether a text is refused at a place of it, and nothing else is told.
func refused(t *testing.T, s string, n int, k api.Errno, at int) {
	t.Helper()
	for _, front := range []string{"", "\x03\x01\x03", strings.Repeat("x", 300)} {
		want := of(k, len(front)+at)
		l, r, e := read(front, s, n)
		if len(l) != 0 || fault.Of(e) != want || r.Fault() != want || fault.Depth(e) != 2 {
			t.Errorf("%q %q %d: %v %v, not %v", front, s, n, l, fault.Text(e), want)
		}
	}
}

// cursor goes over a text, and knows the first fault that it met.
type cursor struct {
	s  string
	at int
	f  api.Fault
}

// next is the number of the next n bytes, from least to most.
func (c *cursor) next(n, least, most int, k api.Errno) int {
	if c.f != (api.Fault{}) {
		return 0
	}
	if len(c.s) < c.at+n {
		c.f = of(api.ErrShort, c.at)
		return 0
	}
	v := 0
	for i := range n {
		v = v*256 + int(c.s[c.at+i])
	}
	if v < least || v > most {
		c.f = of(k, c.at)
		return 0
	}
	c.at += n
	return v
}

// model tells what n schedules of a text are, how many bytes they have, and what is wrong, step by step.
func model(s string, n int) ([]api.Schedule, int, api.Fault) {
	c := &cursor{s: s}
	var l []api.Schedule
	least := 0
	for range n {
		x := api.Schedule{Id: c.next(1, least, 255, api.ErrOrder)}
		x.Frame = c.next(4, 1, 1048576, api.ErrRange)
		for range c.next(2, 0, 256, api.ErrMany) {
			var w api.Window
			w.Id = c.next(1, 0, 255, api.ErrRange)
			w.Offset = c.next(4, 0, 1048576, api.ErrRange)
			w.Length = c.next(4, 0, 1048576, api.ErrRange)
			x.Windows = append(x.Windows, w)
		}
		for range c.next(1, 0, 32, api.ErrMany) {
			var w api.Need
			w.Id = c.next(1, 0, 255, api.ErrRange)
			w.Period = c.next(4, 0, 1048576, api.ErrRange)
			w.Budget = c.next(4, 0, 1048576, api.ErrRange)
			x.Needs = append(x.Needs, w)
		}
		if c.f != (api.Fault{}) {
			return nil, 0, c.f
		}
		l, least = append(l, x), x.Id+1
	}
	return l, c.at, api.Fault{}
}

// held holds what is read out of a text against the model.
func held(t *testing.T, s string, n int) {
	t.Helper()
	want, at, f := model(s, n)
	r := reader.New(s)
	l, e := Read(r, n)
	if !same(l, want) || fault.Of(e) != f || r.Fault() != f || (e == nil) != (f == api.Fault{}) || e == nil && r.Place() != at {
		t.Errorf("%q %d: %v %v, not %v %v", s, n, l, fault.Text(e), want, f)
	}
}

func TestExample(t *testing.T) { // P9.1
	bytes := "\x00\x00\x00\x00\x0a\x00\x01\x03\x00\x00\x00\x00\x00\x00\x00\x04\x00"
	b, e := Put(nil, some[:1])
	if string(b) != bytes || e != nil {
		t.Errorf("%x %v", b, e)
	}
	l, e := Read(reader.New(bytes), 1)
	if e != nil || len(l) != 1 || l[0].Id != 0 || l[0].Frame != 10 || len(l[0].Windows) != 1 || l[0].Windows[0] != (api.Window{Id: 3, Offset: 0, Length: 4}) || len(l[0].Needs) != 0 {
		t.Error(l, e)
	}
}

// ids and ticks are numbers such as an id, or ticks, may be or may not.
var (
	ids     = []int{math.MinInt, -256, -1, 0, 1, 32, 128, 255, 256, 257, 511, 1 << 32, math.MaxInt}
	ticksOf = []int{math.MinInt, -1 << 32, -1, 0, 1, 2, 255, 1 << 16, most - 1, most, most + 1, 1 << 21, 1 << 31, 1<<32 - 1, 1 << 32, 1<<32 + 1, math.MaxInt}
)

// isIn tells whether a number is from one to another one.
func isIn(v, least, most int) bool { return v >= least && v <= most }

func TestRightFrames(t *testing.T) { // P9.1: each id beside each frame, with rows or without
	for _, id := range ids {
		for _, frame := range ticksOf {
			for _, x := range []api.Schedule{{}, some[3], {Windows: manyWindows(256), Needs: manyNeeds(32)}} {
				x.Id, x.Frame = id, frame
				want := api.OK
				if !isIn(id, 0, 255) || !isIn(frame, 1, most) {
					want = api.ErrRange
				}
				if k := Right(x); k != want {
					t.Errorf("%d %d: %d, not %d", id, frame, k, want)
				}
			}
		}
	}
	if k := Right(api.Schedule{}); k != api.ErrRange {
		t.Error(k)
	}
}

func TestRightRows(t *testing.T) { // P9.1: each number of a row beside each other one, at the beginning, within and at the end
	for _, id := range ids {
		for _, a := range ticksOf {
			for _, b := range ticksOf {
				want := api.OK
				if !isIn(id, 0, 255) || !isIn(a, 0, most) || !isIn(b, 0, most) {
					want = api.ErrRange
				}
				for _, at := range []int{0, 5, 31} {
					x := api.Schedule{Frame: 1, Windows: manyWindows(32), Needs: manyNeeds(32)}
					y := api.Schedule{Frame: 1, Windows: manyWindows(32), Needs: manyNeeds(32)}
					x.Windows[at] = api.Window{Id: id, Offset: a, Length: b}
					y.Needs[at] = api.Need{Id: id, Period: a, Budget: b}
					if k := Right(x); k != want {
						t.Errorf("window %d %d %d: %d, not %d", id, a, b, k, want)
					}
					if k := Right(y); k != want {
						t.Errorf("need %d %d %d: %d, not %d", id, a, b, k, want)
					}
				}
			}
		}
	}
}

func TestRightCounts(t *testing.T) { // P9.1: each count of windows beside each count of needs
	for _, windows := range []int{0, 1, 32, 33, 255, 256, 257, 288, 512, 1 << 16, 1<<16 + 1} {
		for _, needs := range []int{0, 1, 31, 32, 33, 255, 256, 257, 288, 1 << 16} {
			want := api.OK
			if windows > 256 || needs > 32 {
				want = api.ErrMany
			}
			if k := Right(api.Schedule{Frame: 1, Windows: manyWindows(windows), Needs: manyNeeds(needs)}); k != want {
				t.Errorf("%d %d: %d, not %d", windows, needs, k, want)
			}
		}
	}
}

func TestRightInTheOrderOfTheBytes(t *testing.T) { // P9.1: id, frame, how many windows, windows, how many needs, needs
	badWindows, badNeeds := []api.Window{{}, {Id: -1}}, []api.Need{{}, {Period: -1}}
	for i, x := range []struct {
		s api.Schedule
		k api.Errno
	}{
		{api.Schedule{Id: -1, Frame: 1, Windows: manyWindows(257)}, api.ErrRange},
		{api.Schedule{Frame: 0, Windows: manyWindows(257), Needs: manyNeeds(33)}, api.ErrRange},
		{api.Schedule{Frame: 1, Windows: append(manyWindows(256), badWindows...)}, api.ErrMany},
		{api.Schedule{Frame: 1, Windows: append(badWindows, manyWindows(256)...), Needs: badNeeds}, api.ErrMany},
		{api.Schedule{Frame: 1, Windows: badWindows, Needs: manyNeeds(33)}, api.ErrRange},
		{api.Schedule{Frame: 1, Windows: manyWindows(256), Needs: append(manyNeeds(32), badNeeds...)}, api.ErrMany},
		{api.Schedule{Frame: 1, Windows: manyWindows(256), Needs: append(badNeeds, manyNeeds(32)...)}, api.ErrMany},
		{api.Schedule{Frame: 1, Windows: manyWindows(256), Needs: badNeeds}, api.ErrRange},
	} {
		if k := Right(x.s); k != x.k {
			t.Errorf("%d: %d, not %d", i, k, x.k)
		}
	}
}

func TestPut(t *testing.T) { // P9.1: behind any bytes, of any length
	for _, front := range [][]byte{nil, {}, {7}, []byte("\x03\x01\x03NAV\x00"), bytes.Repeat([]byte{9}, 1000)} {
		for i := range some {
			for j := i; j <= len(some); j++ {
				b, e := Put(front, some[i:j])
				if string(b) != string(front)+text(some[i:j]) || e != nil {
					t.Errorf("%q %v: %q %v", front, some[i:j], b, fault.Text(e))
				}
			}
		}
		if b, e := Put(front, nil); string(b) != string(front) || e != nil {
			t.Errorf("%q: %q %v", front, b, e)
		}
	}
}

func TestPutAll(t *testing.T) { // P9.1: more than a module may have
	var l []api.Schedule
	for id := range 256 {
		l = append(l, api.Schedule{Id: id, Frame: 1 + id, Windows: manyWindows(id + 1), Needs: manyNeeds(id % 33)})
	}
	b, e := Put(nil, l)
	if string(b) != text(l) || e != nil {
		t.Error(fault.Text(e))
	}
	if got, e := Read(reader.New(string(b)), 256); !same(got, l) || e != nil {
		t.Error(fault.Text(e))
	}
}

func TestPutRefuses(t *testing.T) { // P9.1: the first schedule of which something is wrong, and what is wrong first of it
	bad := map[api.Errno][]api.Schedule{
		api.ErrRange: {{}, {Id: 200}, {Id: -1, Frame: 1}, {Id: 256, Frame: 1}, {Id: 200, Frame: most + 1}, {Id: 3}, {Id: 200, Frame: 1, Windows: []api.Window{{Offset: -1}}}, {Id: 3, Frame: 1, Needs: []api.Need{{Budget: most + 1}}}},
		api.ErrMany:  {{Id: 200, Frame: 1, Windows: manyWindows(257)}, {Id: 3, Frame: 1, Needs: manyNeeds(33)}, {Frame: 1, Windows: make([]api.Window, 1<<16)}, {Id: 200, Frame: 1, Needs: make([]api.Need, 256)}},
		api.ErrOrder: {{Id: 127, Frame: 1}, {Id: 126, Frame: 1, Windows: manyWindows(256)}, {Id: 0, Frame: most, Needs: manyNeeds(32)}},
	}
	for k, l := range bad {
		for _, x := range l {
			for _, behind := range [][]api.Schedule{nil, some, {{Id: 999}}, {{Id: 0, Frame: 1}}} {
				all := append(append(deep(some[:4]), x), behind...)
				for _, front := range []string{"", "front"} {
					b, e := Put([]byte(front), all)
					if string(b) != front || fault.Of(e) != of(k, 4) || fault.Text(e) != "section 3: at 4: "+fault.Name(k) {
						t.Errorf("%v: %q %v", x, b, fault.Text(e))
					}
				}
			}
		}
	}
}

func TestPutRefusesTheFirst(t *testing.T) { // P9.1: of none ahead there is no order; the place 0 is told, too
	for k, x := range map[api.Errno]api.Schedule{api.ErrRange: {Id: -1, Frame: 1}, api.ErrMany: {Frame: 1, Needs: manyNeeds(33)}} {
		if b, e := Put(nil, []api.Schedule{x}); len(b) != 0 || fault.Text(e) != "section 3: at 0: "+fault.Name(k) {
			t.Errorf("%v: %q %v", x, b, fault.Text(e))
		}
	}
	if _, e := Put(nil, []api.Schedule{{Id: 0, Frame: 1}}); e != nil {
		t.Error(fault.Text(e))
	}
	if _, e := Put(nil, []api.Schedule{{Id: 255, Frame: 1}, {Id: 254, Frame: 1}}); fault.Of(e) != of(api.ErrOrder, 1) {
		t.Error(fault.Text(e))
	}
}

func TestPutIsNewMemory(t *testing.T) { // P9.1: spare room is not written to, and nothing is shared or changed
	for _, l := range [][]api.Schedule{some, some[:1], nil, {{}}, {some[1], some[0]}} {
		given := deep(l)
		for _, n := range []int{0, 3} {
			room := []byte("abc" + strings.Repeat(".", 9000))
			before := bytes.Clone(room)
			a, _ := Put(room[:n], given)
			b, _ := Put(room[:n], given)
			kept := bytes.Clone(b)
			for i := range a[:cap(a)] {
				a[:cap(a)][i] = 77
			}
			if !bytes.Equal(room, before) || !bytes.Equal(b, kept) || !same(given, l) {
				t.Errorf("%v: %q %q", l, room, b)
			}
			for i := range room {
				room[i] = 78
			}
			if !bytes.Equal(b, kept) {
				t.Errorf("%v: %q", l, b)
			}
		}
	}
}

func TestRead(t *testing.T) { // P9.1: just as many as are asked for, and the reader is in section 3 then
	for _, front := range []string{"", "\x00", strings.Repeat("x", 300)} {
		for _, back := range []string{"", "\x00\x00\x00\x00\x01\x00\x00\x00", "\xff"} {
			for n := range len(some) + 1 {
				l, r, e := read(front, text(some[:n])+back, n)
				if !same(l, some[:n]) || e != nil || r.Err() != nil || r.Place() != len(front)+len(text(some[:n])) || r.Left() != len(back) {
					t.Errorf("%q %q %d: %v %v", front, back, n, l, fault.Text(e))
				}
				if r.Fail(api.ErrSum, 5); r.Fault() != of(api.ErrSum, 5) {
					t.Error(r.Fault())
				}
			}
		}
	}
}

func TestReadNone(t *testing.T) { // P9.1: of no schedules, or fewer, nothing is read
	for _, n := range []int{0, -1, -2, math.MinInt} {
		for _, s := range []string{"", text(some), "\xff"} {
			l, r, e := read("x", s, n)
			if len(l) != 0 || e != nil || r.Err() != nil || r.Place() != 1 {
				t.Errorf("%q %d: %v %v", s, n, l, fault.Text(e))
			}
			if r.Fail(api.ErrSum, 5); r.Fault() != of(api.ErrSum, 5) {
				t.Error(r.Fault())
			}
		}
	}
}

func TestReadMoreThanThereAre(t *testing.T) { // P9.1: however many are asked for, it ends
	s := text(some)
	for _, n := range []int{len(some) + 1, 257, 1 << 31, 1 << 40, math.MaxInt} {
		refused(t, s, n, api.ErrShort, len(s))
		refused(t, s+"\xff\x00\x00\x00\x01\x00\x00\x00", n, api.ErrOrder, len(s))
		refused(t, "", n, api.ErrShort, 0)
	}
}

func TestReadFieldByField(t *testing.T) { // P9.1: the first that is wrong, whatever stands behind it
	front := text(some[:2])
	good := "\x02\x00\x00\x00\x01"
	for _, x := range []struct {
		s  string
		k  api.Errno
		at int
	}{
		{"", api.ErrShort, 0}, {"\x02", api.ErrShort, 1}, {"\x02\x00\x00\x00", api.ErrShort, 1}, {"\x02\xff\xff\xff", api.ErrShort, 1},
		{good, api.ErrShort, 5}, {good + "\xff", api.ErrShort, 5}, {good + "\x00\x01", api.ErrShort, 7}, {good + "\x00\x01\x09", api.ErrShort, 8},
		{good + "\x00\x01\x09\xff\xff\xff", api.ErrShort, 8}, {good + "\x00\x01\x09\x00\x00\x00\x00\xff\xff\xff", api.ErrShort, 12}, {good + "\x00\x01\x09\x00\x00\x00\x00\x00\x00\x00\x00", api.ErrShort, 16},
		{good + "\x00\x00\x01", api.ErrShort, 8}, {good + "\x00\x00\x01\x09", api.ErrShort, 9}, {good + "\x00\x00\x01\x09\x00\x00\x00\x00", api.ErrShort, 13},
		{"\x01", api.ErrOrder, 0}, {"\x00", api.ErrOrder, 0}, {"\x01\xff\xff\xff\xff\xff\xff", api.ErrOrder, 0}, {"\x01\x00\x00\x00\x01\x00\x00\x00", api.ErrOrder, 0},
		{"\x02\x00\x00\x00\x00", api.ErrRange, 1}, {"\x02\x00\x00\x00\x00\xff\xff", api.ErrRange, 1}, {"\x02\x00\x10\x00\x01", api.ErrRange, 1}, {"\x02\xff\xff\xff\xff", api.ErrRange, 1}, {"\x02\x80\x00\x00\x01\x00\x00\x00", api.ErrRange, 1},
		{good + "\x01\x01", api.ErrMany, 5}, {good + "\xff\xff\x00\xff\xff\xff\xff", api.ErrMany, 5}, {good + "\x02\x00", api.ErrMany, 5},
		{good + "\x00\x01\x09\x00\x10\x00\x01", api.ErrRange, 8}, {good + "\x00\x01\xff\xff\xff\xff\xff\xff\xff\xff\xff\xff", api.ErrRange, 8}, {good + "\x00\x01\x09\x00\x10\x00\x00\x00\x10\x00\x01", api.ErrRange, 12}, {good + "\x00\x01\x09\x00\x00\x00\x00\x80\x00\x00\x00\xff", api.ErrRange, 12},
		{good + "\x00\x02\x09\x00\x00\x00\x00\x00\x00\x00\x00\x09\x00\x00\x00\x00\x00\x10\x00\x01", api.ErrRange, 21},
		{good + "\x00\x00\x21", api.ErrMany, 7}, {good + "\x00\x00\xff\x00\xff\xff\xff\xff", api.ErrMany, 7}, {good + "\x00\x01\x09\x00\x00\x00\x00\x00\x00\x00\x00\x21", api.ErrMany, 16},
		{good + "\x00\x00\x01\x09\x00\x10\x00\x01", api.ErrRange, 9}, {good + "\x00\x00\x01\x09\x00\x10\x00\x00\x00\x10\x00\x01", api.ErrRange, 13}, {good + "\x00\x00\x02\x09\x00\x00\x00\x00\x00\x00\x00\x00\xff\xff\xff\xff\xff", api.ErrRange, 18},
	} {
		refused(t, front+x.s, 3, x.k, len(front)+x.at)
	}
}

func TestReadEachByte(t *testing.T) { // P9.1: each byte of the bytes of some becomes each other one; each beginning of them
	whole := text(some[:4])
	for at := range len(whole) {
		for c := range 256 {
			held(t, whole[:at]+string([]byte{byte(c)})+whole[at+1:], 4)
		}
		held(t, whole[:at], 4)
	}
}

func TestReadCounts(t *testing.T) { // P9.1: each count of windows, or of needs, with rows for all, for some, for none
	one := "\x01\x00\x00\x00\x07\x00\x00\x00\x08"
	for n := range 600 {
		s := "\x09\x00\x00\x00\x01"
		windows := s + string([]byte{byte(n >> 8), byte(n)})
		for _, there := range []int{300, n, n - 1, 0} {
			rows := strings.Repeat(one, max(there, 0))
			held(t, windows+rows+"\x00", 1)
			if n < 256 {
				held(t, s+"\x00\x00"+string([]byte{byte(n)})+rows, 1)
				held(t, s+"\x00\x01"+one+string([]byte{byte(n)})+rows, 1)
			}
		}
	}
	for _, n := range []string{"\x01\x00", "\x02\x00", "\x80\x00", "\xff\xff"} {
		held(t, "\x09\x00\x00\x00\x01"+n+strings.Repeat(one, 256)+"\x00", 1)
	}
}

func TestReadBehindWhatIsWrong(t *testing.T) { // P9.1: what was wrong first stays so
	for _, s := range []string{text(some), "", "\x00\x02"} {
		for _, n := range []int{-1, 0, 1, 6, math.MaxInt} {
			r := reader.New(s)
			r.Enter(6)
			r.Fail(api.ErrLength, 9)
			want := api.Fault{Error: api.ErrLength, Section: 6, At: 9}
			if l, e := Read(r, n); len(l) != 0 || fault.Of(e) != want || r.Fault() != want || r.Place() != 0 {
				t.Errorf("%q %d: %v %v", s, n, l, fault.Text(e))
			}
		}
	}
}

func TestReadTwice(t *testing.T) { // P9.1: each call's first schedule has none ahead of it; no two lists share anything
	s := text(some)
	r := reader.New(s + s)
	a, e := Read(r, len(some))
	b, f := Read(r, len(some))
	if !same(a, some) || !same(b, some) || e != nil || f != nil || r.Left() != 0 {
		t.Error(a, b, e, f)
	}
	for i := range a {
		for j := range a[i].Windows {
			a[i].Windows[j].Offset++
		}
		_ = append(a[i].Windows, api.Window{Id: 99})
		for j := range a[i].Needs {
			a[i].Needs[j].Period++
		}
		_ = append(a[i].Needs, api.Need{Id: 99})
		if !same(a[i+1:], some[i+1:]) {
			t.Error(a[i+1:])
		}
	}
	if !same(b, some) {
		t.Error(b)
	}
}

func TestFind(t *testing.T) { // P9.1: the first one, in any order; where there is none, the place 0
	l := []api.Schedule{{Id: 9, Frame: 1}, {Id: 3}, {Id: -4}, {Id: 3, Frame: 2}, {Id: math.MaxInt}, {Id: 9}}
	for id, at := range map[int]int{9: 0, 3: 1, -4: 2, math.MaxInt: 4} {
		if i, ok := Find(l, id); i != at || !ok {
			t.Error(id, i, ok)
		}
	}
	for _, id := range []int{0, 1, 4, -3, 8, 10, math.MinInt} {
		if i, ok := Find(l, id); i != 0 || ok {
			t.Error(id, i, ok)
		}
	}
	if i, ok := Find(nil, 0); i != 0 || ok {
		t.Error(i, ok)
	}
	for at, x := range some {
		if i, ok := Find(some, x.Id); i != at || !ok {
			t.Error(x.Id, i, ok)
		}
	}
}

func TestSame(t *testing.T) { // P9.1
	for i, a := range some {
		for j, b := range deep(some) {
			if Same(a, b) != (i == j) {
				t.Error(a, b)
			}
		}
	}
	for i, change := range []func(*api.Schedule){
		func(x *api.Schedule) { x.Id++ },
		func(x *api.Schedule) { x.Id -= 256 },
		func(x *api.Schedule) { x.Frame++ },
		func(x *api.Schedule) { x.Frame += 1 << 32 },
		func(x *api.Schedule) { x.Windows[0].Id++ },
		func(x *api.Schedule) { x.Windows[1].Offset-- },
		func(x *api.Schedule) { x.Windows[2].Length += 1 << 40 },
		func(x *api.Schedule) { x.Windows = x.Windows[:2] },
		func(x *api.Schedule) { x.Windows = nil },
		func(x *api.Schedule) { x.Windows = append(x.Windows, api.Window{}) },
		func(x *api.Schedule) { x.Windows[0], x.Windows[1] = x.Windows[1], x.Windows[0] },
		func(x *api.Schedule) { x.Needs[0].Id++ },
		func(x *api.Schedule) { x.Needs[1].Period-- },
		func(x *api.Schedule) { x.Needs[1].Budget ^= 1 << 62 },
		func(x *api.Schedule) { x.Needs = x.Needs[:1] },
		func(x *api.Schedule) { x.Needs = nil },
		func(x *api.Schedule) { x.Needs = append(x.Needs, api.Need{}) },
		func(x *api.Schedule) { x.Needs[0], x.Needs[1] = x.Needs[1], x.Needs[0] },
	} {
		o := deep(some[3:4])[0]
		if !Same(some[3], o) {
			t.Error(i, o)
		}
		if change(&o); Same(some[3], o) || Same(o, some[3]) {
			t.Error(i, o)
		}
	}
	empty := api.Schedule{Windows: []api.Window{}, Needs: []api.Need{}}
	if !Same(empty, api.Schedule{}) || !Same(api.Schedule{}, empty) {
		t.Error("nil and empty rows are one")
	}
}

func TestClone(t *testing.T) { // P9.1: of any schedules, and nothing is shared, spare room neither
	windows, needs := make([]api.Window, 2, 9), make([]api.Need, 2, 9)
	rooms := []api.Schedule{{Windows: windows[:1], Needs: needs[:1]}, {Windows: windows[:0], Needs: needs[:0]}, {Windows: windows, Needs: needs}}
	for _, l := range [][]api.Schedule{nil, {}, some, some[1:2], {{Id: -1, Windows: manyWindows(300), Needs: manyNeeds(40)}, {Frame: -7}}, rooms} {
		given := deep(l)
		c := Clone(l)
		d := Clone(l)
		if !same(c, given) || !same(d, given) {
			t.Errorf("%v: %v", l, c)
		}
		for i := range c {
			_ = append(c[i].Windows, api.Window{Id: 98})
			_ = append(c[i].Needs, api.Need{Id: 98})
			for j := range c[i].Windows {
				c[i].Windows[j].Length += 7
			}
			for j := range c[i].Needs {
				c[i].Needs[j].Budget += 7
			}
			if !same(c[i+1:], given[i+1:]) {
				t.Errorf("%v: %v", l, c)
			}
			c[i].Windows, c[i].Needs = nil, nil
			c[i].Id++
		}
		_ = append(c, api.Schedule{Id: 97})
		if !same(l, given) || !same(d, given) || windows[:9][1] != (api.Window{}) || windows[:9][2] != (api.Window{}) || needs[:9][1] != (api.Need{}) || needs[:9][2] != (api.Need{}) {
			t.Errorf("%v: %v %v", l, windows[:9], needs[:9])
		}
	}
}

func TestCloneKeepsWhatItWas(t *testing.T) { // P9.1: what is changed behind the call is not seen
	l := deep(some)
	c := Clone(l)
	for i := range l {
		for j := range l[i].Windows {
			l[i].Windows[j].Id++
		}
		for j := range l[i].Needs {
			l[i].Needs[j].Id++
		}
		l[i].Frame = 77
	}
	if !same(c, some) {
		t.Error(c)
	}
}

// ruled is a row of numbers that a rule makes, each of which is below what it is asked with.
func ruled(x uint64) func(n int) int {
	return func(n int) int {
		x = x*6364136223846793005 + 1442695040888963407
		return int(x>>33) % n
	}
}

func TestWhatIsPutIsRead(t *testing.T) { // P9.2: lists out of numbers, and the bytes of what is read
	next := ruled(7)
	for range 1500 {
		var l []api.Schedule
		for id := next(60); id < 256 && len(l) < 20; id += 1 + next(60) {
			x := api.Schedule{Id: id, Frame: 1 + next(most)}
			for range next(257) * next(2) {
				x.Windows = append(x.Windows, api.Window{Id: next(256), Offset: next(most + 1), Length: next(most + 1)})
			}
			for range next(33) {
				x.Needs = append(x.Needs, api.Need{Id: next(256), Period: next(most + 1), Budget: next(most + 1)})
			}
			l = append(l, x)
		}
		b, e := Put([]byte("CWM1"), l)
		if e != nil {
			t.Fatal(l, fault.Text(e))
		}
		r := reader.New(string(b))
		r.Text(4)
		got, e := Read(r, len(l))
		if e != nil || !same(got, l) || r.Left() != 0 {
			t.Fatal(l, got, fault.Text(e))
		}
		again, e := Put(nil, got)
		if e != nil || string(again) != string(b[4:]) {
			t.Fatalf("%q %q %v", again, b[4:], fault.Text(e))
		}
	}
}

func TestOfWhatIsReadTheseBytesArePut(t *testing.T) { // P9.2: of bytes that nearly are schedules
	next := ruled(11)
	whole := text(some[:4])
	read := 0
	for range 20000 {
		b := []byte(whole)
		for range 1 + next(2) {
			b[next(len(b))] = byte(next(256))
		}
		n := 1 + next(5)
		held(t, string(b), n)
		r := reader.New(string(b))
		l, e := Read(r, n)
		if e != nil {
			continue
		}
		read++
		if again, e := Put(nil, l); e != nil || string(again) != string(b[:r.Place()]) {
			t.Fatalf("%q %q %v", b, again, fault.Text(e))
		}
	}
	if read < 1000 {
		t.Error(read)
	}
}
