package header

import (
	"bytes"
	"encoding/binary"
	"math"
	"strings"
	"testing"

	"countwheel/api"
	"countwheel/fault"
	"countwheel/reader"
)

// good is a header whose fields differ from one another, byte by byte.
var good = Header{Total: 0x01020304, Epoch: 0x1112131415161718, First: 0x21, Parts: 7, Scheds: 9, Pairs: 0xc8, Acts: 0x01f2}

// goodText is its bytes.
const goodText = "CWM1\x01\x02\x03\x04\x11\x12\x13\x14\x15\x16\x17\x18\x21\x07\x09\x00\xc8\x01\xf2"

// starts are where the fields begin, and where the last one ends.
var starts = []int{0, 1, 2, 3, 4, 8, 16, 17, 18, 19, 21, 23}

// numbers are such as a count or an id may be, or may not.
var numbers = []int{math.MinInt, -1 << 32, -256, -1, 0, 1, 2, 15, 16, 17, 31, 32, 33, 239, 240, 241, 255, 256, 257, 511, 512, 513, 65535, 65536, 65537, 1 << 32, 1<<32 + 1, math.MaxInt}

// text is a header's bytes, told another way.
func text(h Header) string {
	b := []byte{0x43, 0x57, 0x4d, 0x31}
	b = binary.BigEndian.AppendUint32(b, h.Total)
	b = binary.BigEndian.AppendUint64(b, h.Epoch)
	b = append(b, byte(h.First), byte(h.Parts), byte(h.Scheds))
	b = binary.BigEndian.AppendUint16(b, uint16(h.Pairs))
	b = binary.BigEndian.AppendUint16(b, uint16(h.Acts))
	return string(b)
}

// may is what Right is to say.
func may(h Header) api.Fault {
	switch {
	case h.First < 0 || h.First > 255:
		return api.Fault{Error: api.ErrRange, Section: 1, At: 0}
	case h.Parts < 1 || h.Parts > 32:
		return api.Fault{Error: api.ErrMany, Section: 1, At: 1}
	case h.Scheds < 1 || h.Scheds > 16:
		return api.Fault{Error: api.ErrMany, Section: 1, At: 2}
	case h.Pairs < 0 || h.Pairs > 240:
		return api.Fault{Error: api.ErrMany, Section: 1, At: 3}
	case h.Acts < 0 || h.Acts > 512:
		return api.Fault{Error: api.ErrMany, Section: 1, At: 4}
	}
	return api.Fault{}
}

// changed are headers out of one, one field of them any number.
func changed(h Header) []Header {
	var l []Header
	for _, n := range numbers {
		a, b, c, d, e := h, h, h, h, h
		a.First, b.Parts, c.Scheds, d.Pairs, e.Acts = n, n, n, n, n
		l = append(l, a, b, c, d, e)
	}
	return l
}

// all are headers, many of which may not be: up to two fields of each are any number.
func all() []Header {
	var l []Header
	for _, h := range changed(good) {
		l = append(l, changed(h)...)
	}
	return l
}

// read reads a text in front of which other bytes were read, in another section.
func read(front, s string) (Header, *reader.Reader, error) {
	r := reader.New(front + s)
	r.Enter(4)
	r.Text(len(front))
	h, e := Read(r)
	return h, r, e
}

// refused tells whether a text is refused at a place of it, and nothing else is told.
func refused(t *testing.T, s string, k api.Errno, at int) {
	t.Helper()
	for _, front := range []string{"", "CWM", strings.Repeat("x", 300)} {
		want := api.Fault{Error: k, Section: 1, At: len(front) + at}
		h, r, e := read(front, s)
		if h != (Header{}) || fault.Of(e) != want || r.Fault() != want || fault.Depth(e) != 2 {
			t.Errorf("%q %q: %v %v, not %v", front, s, h, fault.Text(e), want)
		}
	}
}

func TestExample(t *testing.T) { // P7.1
	_, e := Read(reader.New("CWM2" + goodText[4:]))
	if fault.Of(e) != (api.Fault{Error: api.ErrMagic, Section: 1, At: 3}) || fault.Text(e) != "section 1: at 3: magic" {
		t.Error(fault.Text(e))
	}
}

func TestSize(t *testing.T) { // P7.1
	if Size != 23 || len(goodText) != Size || text(good) != goodText {
		t.Errorf("%d %q", Size, text(good))
	}
}

func TestRight(t *testing.T) { // P7.1: the first that is wrong, each number beside each other one
	for _, h := range all() {
		e, want := Right(h), may(h)
		if fault.Of(e) != want || (e == nil) != (want == api.Fault{}) {
			t.Errorf("%v: %v, not %v", h, fault.Text(e), want)
		}
	}
	if e := Right(Header{}); fault.Of(e) != (api.Fault{Error: api.ErrMany, Section: 1, At: 1}) {
		t.Error(fault.Text(e))
	}
}

func TestRightOfAllNumbers(t *testing.T) { // P7.1: no number between the edges is told otherwise; Total and Epoch may be any
	for n := range 1200 {
		for _, total := range []uint32{0, 22, 23, math.MaxUint32} {
			a, b, c, d, e := good, good, good, good, good
			a.First, b.Parts, c.Scheds, d.Pairs, e.Acts = n, n, n, n, n
			for _, h := range []Header{a, b, c, d, e} {
				h.Total, h.Epoch = total, uint64(total)<<32|1
				if fault.Of(Right(h)) != may(h) {
					t.Errorf("%v: %v, not %v", h, fault.Text(Right(h)), may(h))
				}
			}
		}
	}
}

func TestRightsWraps(t *testing.T) { // P7.1: a section around a place, also where the place is 0
	for h, want := range map[Header]string{
		{First: -1}:              "section 1: at 0: range",
		{Parts: 33}:              "section 1: at 1: many",
		{Parts: 1}:               "section 1: at 2: many",
		{Parts: 1, Scheds: 1}:    "",
		{Parts: 32, Scheds: 16}:  "",
		{First: 255, Scheds: 16}: "section 1: at 1: many",
		{Parts: 1, Scheds: 1, Pairs: 241, Acts: -1}: "section 1: at 3: many",
		{Parts: 1, Scheds: 1, Acts: 513}:            "section 1: at 4: many",
	} {
		if e := Right(h); fault.Text(e) != want || want != "" && fault.Depth(e) != 2 {
			t.Errorf("%v: %q", h, fault.Text(e))
		}
	}
}

func TestPut(t *testing.T) { // P7.1: behind any bytes; what is refused lays nothing
	for _, front := range [][]byte{nil, {}, {7}, []byte("CWM1"), bytes.Repeat([]byte{9}, 1000)} {
		for _, h := range all() {
			want := may(h)
			laid := string(front)
			if want == (api.Fault{}) {
				laid += text(h)
			}
			b, e := Put(front, h)
			if string(b) != laid || fault.Of(e) != want || (e == nil) != (want == api.Fault{}) {
				t.Fatalf("%q %v: %q %v", front, h, b, fault.Text(e))
			}
		}
	}
	if b, e := Put(nil, good); string(b) != goodText || e != nil {
		t.Errorf("%q %v", b, e)
	}
	if _, e := Put(nil, Header{First: 256}); fault.Text(e) != "section 1: at 0: range" {
		t.Error(fault.Text(e))
	}
}

func TestPutIsNewMemory(t *testing.T) { // P7.1: spare room is not written to, and nothing is shared
	for _, h := range []Header{good, {}} {
		for _, n := range []int{0, 3} {
			room := []byte("abc.........................................")
			before := bytes.Clone(room)
			a, _ := Put(room[:n], h)
			b, _ := Put(room[:n], h)
			kept := bytes.Clone(b)
			for i := range a[:cap(a)] {
				a[:cap(a)][i] = 77
			}
			if !bytes.Equal(room, before) || !bytes.Equal(b, kept) {
				t.Errorf("%v: %q %q", h, room, b)
			}
			for i := range room {
				room[i] = 78
			}
			if !bytes.Equal(b, kept) {
				t.Errorf("%v: %q", h, b)
			}
		}
	}
}

func TestRead(t *testing.T) { // P7.1: just its own bytes are read, and the reader is in section 1 then
	for _, front := range []string{"", "\x00", "CWM1", strings.Repeat("x", 300)} {
		for _, back := range []string{"", "CWM1", "\xff"} {
			h, r, e := read(front, goodText+back)
			if h != good || e != nil || r.Err() != nil || r.Place() != len(front)+23 || r.Left() != len(back) {
				t.Errorf("%q %q: %v %v", front, back, h, fault.Text(e))
			}
			if r.Fail(api.ErrSum, 5); r.Fault() != (api.Fault{Error: api.ErrSum, Section: 1, At: 5}) {
				t.Error(r.Fault())
			}
		}
	}
}

func TestReadShort(t *testing.T) { // P7.1: at the field that isn't all there
	for i, at := range starts[:len(starts)-1] {
		for n := at; n < starts[i+1]; n++ {
			refused(t, goodText[:n], api.ErrShort, at)
		}
	}
}

func TestReadMagic(t *testing.T) { // P7.1: each other byte, whatever stands behind it
	for at := range 4 {
		for c := range 256 {
			if byte(c) == goodText[at] {
				continue
			}
			wrong := goodText[:at] + string([]byte{byte(c)})
			for _, back := range []string{goodText[at+1:], "", "x", strings.Repeat("\xff", 22)} {
				refused(t, wrong+back, api.ErrMagic, at)
			}
		}
	}
}

func TestReadCounts(t *testing.T) { // P7.1: each number that a count's bytes can be, whatever stands behind it
	for n := range 1 << 16 {
		two := string([]byte{byte(n >> 8), byte(n)})
		for _, x := range []struct {
			at, most, least int
			bytes           string
		}{{17, 32, 1, two[1:]}, {18, 16, 1, two[1:]}, {19, 240, 0, two}, {21, 512, 0, two}} {
			if len(x.bytes) == 1 && n > 255 {
				continue
			}
			s := goodText[:x.at] + x.bytes
			whole := s + goodText[len(s):]
			if n >= x.least && n <= x.most {
				if h, e := Read(reader.New(whole)); e != nil || text(h) != whole {
					t.Errorf("%q: %v %v", whole, h, fault.Text(e))
				}
				continue
			}
			for _, back := range []string{goodText[len(s):], "", "\xff\xff\xff\xff\xff\xff"} {
				f := api.Fault{Error: api.ErrMany, Section: 1, At: x.at}
				if h, e := Read(reader.New(s + back)); h != (Header{}) || fault.Of(e) != f {
					t.Errorf("%q: %v %v", s+back, h, fault.Text(e))
				}
			}
		}
	}
}

func TestReadCountsInTheirOrder(t *testing.T) { // P7.1: the first one that is wrong
	for _, x := range []struct {
		counts string
		at     int
	}{
		{"\x00\x00\xff\xff\xff\xff", 17}, {"\x01\x00\xff\xff\xff\xff", 18}, {"\x01\x01\xff\xff\xff\xff", 19}, {"\x01\x01\x00\xf0\xff\xff", 21},
		{"\x21\x10\x00\xf0\x02\x00", 17}, {"\x20\x11\x00\xf0\x02\x00", 18}, {"\x20\x10\x00\xf1\x02\x00", 19}, {"\x20\x10\x00\xf0\x02\x01", 21}, {"\x00\x11", 17},
	} {
		refused(t, goodText[:17]+x.counts, api.ErrMany, x.at)
	}
	for _, s := range []string{"\x01\x01\x00\x00\x00\x00", "\x20\x10\x00\xf0\x02\x00"} {
		if h, e := Read(reader.New(goodText[:17] + s)); e != nil || text(h) != goodText[:17]+s {
			t.Errorf("%q: %v %v", s, h, fault.Text(e))
		}
	}
}

func TestReadBehindWhatIsWrong(t *testing.T) { // P7.1: what was wrong first stays so
	for _, s := range []string{goodText, "", "CXM1", goodText[:17] + "\x00"} {
		r := reader.New(s)
		r.Enter(6)
		r.Fail(api.ErrForm, 9)
		want := api.Fault{Error: api.ErrForm, Section: 6, At: 9}
		if h, e := Read(r); h != (Header{}) || fault.Of(e) != want || r.Fault() != want || r.Place() != 0 {
			t.Errorf("%q: %v %v", s, h, fault.Text(e))
		}
	}
}

func TestReadTwice(t *testing.T) { // P7.1: one header behind another one; a reader of none stays so
	other := Header{Epoch: math.MaxUint64, First: 255, Parts: 32, Scheds: 16, Pairs: 240, Acts: 512}
	r := reader.New(goodText + text(other) + "CWM1")
	for _, want := range []Header{good, other} {
		if h, e := Read(r); h != want || e != nil {
			t.Error(h, fault.Text(e))
		}
	}
	for range 2 {
		if h, e := Read(r); h != (Header{}) || fault.Of(e) != (api.Fault{Error: api.ErrShort, Section: 1, At: 50}) {
			t.Error(h, fault.Text(e))
		}
	}
}

func TestOf(t *testing.T) { // P7.1: as far as it can be told, whether or not it may be
	for _, n := range []int{0, 1, 2, 33, 600} {
		m := api.Module{
			Epoch:     uint64(n) << 40,
			First:     n - 2,
			Parts:     make([]api.Partition, n),
			Schedules: make([]api.Schedule, n+1),
			Pairs:     make([]api.Pair, n+2),
			Acts:      make([]api.Act, n+3),
		}
		if h := Of(m); h != (Header{Epoch: uint64(n) << 40, First: n - 2, Parts: n, Scheds: n + 1, Pairs: n + 2, Acts: n + 3}) {
			t.Error(n, h)
		}
	}
	if h := Of(api.Module{}); h != (Header{}) {
		t.Error(h)
	}
	if h := Of(api.Module{Epoch: math.MaxUint64, First: math.MinInt}); h != (Header{Epoch: math.MaxUint64, First: math.MinInt}) {
		t.Error(h)
	}
}

func TestWhatIsPutIsRead(t *testing.T) { // P7.2: many, one behind the other
	x := uint64(1)
	next := func(n int) int {
		x = x*6364136223846793005 + 1442695040888963407
		return int(x>>33) % n
	}
	var l []Header
	var b []byte
	for range 2000 {
		h := Header{Total: uint32(next(1<<31)) * 3, Epoch: x, First: next(256), Parts: 1 + next(32), Scheds: 1 + next(16), Pairs: next(241), Acts: next(513)}
		l = append(l, h)
		var e, not error
		b, e = Put(b, h)
		b, not = Put(b, Header{First: h.First})
		if e != nil || not == nil {
			t.Fatal(h, fault.Text(e), fault.Text(not))
		}
	}
	r := reader.New(string(b))
	for i, h := range l {
		if got, e := Read(r); got != h || e != nil || r.Place() != 23*(i+1) {
			t.Fatal(h, got, fault.Text(e))
		}
	}
	if r.Left() != 0 {
		t.Error(r.Left())
	}
}

func TestWhatMayBeIsPutAndRead(t *testing.T) { // P7.2: at the edges
	for _, h := range all() {
		b, e := Put(nil, h)
		if e != nil {
			continue
		}
		if got, e := Read(reader.New(string(b))); got != h || e != nil {
			t.Errorf("%v: %v %v", h, got, fault.Text(e))
		}
	}
}
