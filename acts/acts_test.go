package acts

import (
	"bytes"
	"math"
	"slices"
	"strings"
	"testing"

	"countwheel/api"
	"countwheel/fault"
	"countwheel/reader"
)

// some are acts that rise: the edges of what they may be.
var some = []api.Act{
	{Schedule: 0, Partition: 0, Action: 2}, {Schedule: 0, Partition: 1, Action: 1}, {Schedule: 0, Partition: 255, Action: 2}, {Schedule: 1, Partition: 0, Action: 1},
	{Schedule: 127, Partition: 128, Action: 1}, {Schedule: 128, Partition: 127, Action: 2}, {Schedule: 255, Partition: 0, Action: 1}, {Schedule: 255, Partition: 255, Action: 2},
}

// ids are numbers such as an id may be, or may not; actions are such as an action may be, or may not.
var (
	ids     = []int{math.MinInt, -1 << 32, -256, -1, 0, 1, 2, 127, 128, 254, 255, 256, 257, 511, 1 << 32, 1<<32 + 1, math.MaxInt}
	actions = []int{math.MinInt, -1, 0, 1, 2, 3, 4, 255, 256, 257, 258, 1<<32 + 1, math.MaxInt}
)

// text is acts' bytes, told another way.
func text(l []api.Act) string {
	var b []byte
	for _, a := range l {
		b = append(b, byte(a.Schedule), byte(a.Partition), byte(a.Action))
	}
	return string(b)
}

// ahead tells whether an act is ahead of another one, told another way.
func ahead(a, b api.Act) bool {
	if a.Schedule == b.Schedule {
		return a.Partition < b.Partition
	}
	return a.Schedule < b.Schedule
}

// of is a fault of section 5.
func of(k api.Errno, at int) api.Fault { return api.Fault{Error: k, Section: 5, At: at} }

// read reads acts out of a text in front of which other bytes were read, in another section.
func read(front, s string, n int) ([]api.Act, *reader.Reader, error) {
	r := reader.New(front + s)
	r.Enter(1)
	r.Text(len(front))
	l, e := Read(r, n)
	return l, r, e
}

// refused tells whether a text is refused at a place of it, and nothing else is told.
func refused(t *testing.T, s string, n int, k api.Errno, at int) {
	t.Helper()
	for _, front := range []string{"", "\xff\xff", strings.Repeat("x", 301)} {
		want := of(k, len(front)+at)
		l, r, e := read(front, s, n)
		if len(l) != 0 || fault.Of(e) != want || r.Fault() != want || fault.Depth(e) != 2 {
			t.Errorf("%q %q %d: %v %v, not %v", front, s, n, l, fault.Text(e), want)
		}
	}
}

// ruled is a row of numbers that a rule makes, each of which is below what it is asked with.
func ruled(x uint64) func(n int) int {
	return func(n int) int {
		x = x*6364136223846793005 + 1442695040888963407
		return int(x>>33) % n
	}
}

// mixed are n acts of a few ids, in any order, some of them of one schedule and partition, with any actions.
func mixed(next func(n int) int, n, few int) []api.Act {
	l := make([]api.Act, n)
	for i := range l {
		l[i] = api.Act{Schedule: next(few) - few/3, Partition: next(few) - few/3, Action: next(9) - 3}
	}
	return l
}

// first is the action of the first act of a schedule and a partition; whether there is one.
func first(l []api.Act, schedule, partition int) (int, bool) {
	i := slices.IndexFunc(l, func(a api.Act) bool { return a.Schedule == schedule && a.Partition == partition })
	if i < 0 {
		return 0, false
	}
	return l[i].Action, true
}

func TestExample(t *testing.T) { // P11.1
	l, e := Read(reader.New("\x01\x02\x03"), 1)
	if len(l) != 0 || fault.Of(e) != (api.Fault{Error: api.ErrForm, Section: 5, At: 2}) || fault.Text(e) != "section 5: at 2: form" {
		t.Error(l, fault.Text(e))
	}
}

func TestLess(t *testing.T) { // P11.1: by schedule, then partition; what they do doesn't count
	for _, a := range ids {
		for _, b := range ids {
			for _, c := range ids {
				for _, d := range ids {
					for _, k := range []int{-1, 0, 1, 2} {
						p, q := api.Act{Schedule: a, Partition: b, Action: k}, api.Act{Schedule: c, Partition: d, Action: 1}
						if Less(p, q) != ahead(p, q) {
							t.Error(p, q)
						}
					}
				}
			}
		}
	}
}

func TestForAndRow(t *testing.T) { // P11.1: of lists in any order the first one, and nothing is changed
	next := ruled(5)
	for n := range 80 {
		for _, few := range []int{1, 3, 10} {
			l := mixed(next, n, few)
			given := slices.Clone(l)
			for schedule := -few; schedule <= few; schedule++ {
				var partitions, want []int
				for range next(30) {
					p := next(3*few) - few
					action, _ := first(l, schedule, p)
					if got := For(l, schedule, p); got != action {
						t.Error(l, schedule, p, got, action)
					}
					partitions, want = append(partitions, p), append(want, action)
				}
				asked := slices.Clone(partitions)
				if got := Row(l, schedule, partitions); !slices.Equal(got, want) || !slices.Equal(partitions, asked) {
					t.Error(l, schedule, partitions, got, want)
				}
			}
			if !slices.Equal(l, given) {
				t.Error(l, given)
			}
		}
	}
}

func TestForOfAnyNumbers(t *testing.T) { // P11.1: the action is told as it stands; where there is no act it is Ignore
	l := []api.Act{{Schedule: math.MaxInt, Partition: math.MinInt, Action: math.MinInt}, {Schedule: 1, Partition: 2, Action: 7}, {Schedule: 1, Partition: 2, Action: 1}, {Schedule: 2, Partition: 1, Action: 2}, {Action: 1}}
	for _, x := range [][3]int{{math.MaxInt, math.MinInt, math.MinInt}, {1, 2, 7}, {2, 1, 2}, {0, 0, 1}, {1, 1, 0}, {2, 2, 0}, {math.MinInt, math.MaxInt, 0}, {257, 258, 0}, {-1, 0, 0}, {0, -1, 0}} {
		if got := For(l, x[0], x[1]); got != x[2] {
			t.Error(x, got)
		}
		if got := Row(l, x[0], []int{x[1], x[1]}); !slices.Equal(got, []int{x[2], x[2]}) {
			t.Error(x, got)
		}
		if For(nil, x[0], x[1]) != api.Ignore || !slices.Equal(Row(nil, x[0], []int{x[1]}), []int{api.Ignore}) {
			t.Error(x)
		}
	}
	if len(Row(l, 1, nil)) != 0 || len(Row(nil, 1, []int{})) != 0 {
		t.Error("no partitions")
	}
}

func TestRowIsNewMemory(t *testing.T) { // P11.1: nothing is shared with the partitions asked for
	partitions := []int{1, 2, 3, 9, 9}
	row := Row(some, 0, partitions[:3])
	for i := range row[:cap(row)] {
		row[:cap(row)][i] = 77
	}
	if !slices.Equal(partitions, []int{1, 2, 3, 9, 9}) || !slices.Equal(Row(some, 0, partitions[:3]), []int{1, 0, 0}) {
		t.Error(partitions)
	}
}

func TestLongRow(t *testing.T) { // P11.1: long lists of acts and of partitions end soon
	const n = 100000
	l, partitions := make([]api.Act, n), make([]int, n)
	for i := range n {
		l[i], partitions[i] = api.Act{Schedule: 3, Partition: i, Action: 1 + i%2}, n-1-i
	}
	for i, action := range Row(l, 3, partitions) {
		if action != 1+(n-1-i)%2 {
			t.Fatal(i, action)
		}
	}
}

func TestSort(t *testing.T) { // P11.1: the first of each alone, and what was handed in stays as it was
	next := ruled(3)
	for n := range 120 {
		for _, few := range []int{1, 2, 4, 12, 60} {
			room := mixed(next, n+3, few)
			given := slices.Clone(room)
			l := room[:n]
			s := Sort(l)
			for i, a := range s {
				action, ok := first(l, a.Schedule, a.Partition)
				if i > 0 && !ahead(s[i-1], a) || !ok || action != a.Action {
					t.Error(l, s)
				}
			}
			for _, a := range l {
				if _, ok := first(s, a.Schedule, a.Partition); !ok {
					t.Error(l, s)
				}
			}
			for i := range s[:cap(s)] {
				s[:cap(s)][i] = api.Act{Schedule: 99}
			}
			if !slices.Equal(room, given) {
				t.Error(room, given)
			}
		}
	}
	if s := Sort([]api.Act{{Schedule: 1 << 40, Partition: -1}, {Schedule: math.MinInt, Partition: 2}, {Schedule: math.MaxInt}, {Schedule: math.MinInt, Partition: -2}}); !slices.Equal(s, []api.Act{{Schedule: math.MinInt, Partition: -2}, {Schedule: math.MinInt, Partition: 2}, {Schedule: 1 << 40, Partition: -1}, {Schedule: math.MaxInt}}) {
		t.Error(s)
	}
	if s := Sort(nil); len(s) != 0 {
		t.Error(s)
	}
}

func TestSortLong(t *testing.T) { // P11.1: of many acts of one schedule and partition the first one
	var l []api.Act
	for i := range 5000 {
		l = append(l, api.Act{Schedule: i % 3, Partition: i % 2, Action: i})
	}
	if s := Sort(l); !slices.Equal(s, []api.Act{{Action: 0}, {Partition: 1, Action: 3}, {Schedule: 1, Action: 4}, {Schedule: 1, Partition: 1, Action: 1}, {Schedule: 2, Action: 2}, {Schedule: 2, Partition: 1, Action: 5}}) {
		t.Error(s)
	}
}

func TestPut(t *testing.T) { // P11.1: behind any bytes, of any length
	for _, front := range [][]byte{nil, {}, {7}, []byte("\xff\xff\x01"), bytes.Repeat([]byte{9}, 1000)} {
		for i := range some {
			for j := i; j <= len(some); j++ {
				b, e := Put(front, some[i:j])
				if string(b) != string(front)+text(some[i:j]) || e != nil {
					t.Errorf("%q %v: %q %v", front, some[i:j], b, fault.Text(e))
				}
			}
		}
		if b, e := Put(front, nil); string(b) != string(front) || e != nil {
			t.Errorf("%q: %q %v", front, b, e)
		}
	}
}

func TestPutEach(t *testing.T) { // P11.1: each schedule beside each partition and action, the first, and behind another one
	fronts := [][]api.Act{nil, {{Action: 1}}, {{Schedule: 127, Partition: 128, Action: 2}}, {{Schedule: 3, Partition: 1, Action: 2}, {Schedule: 254, Partition: 255, Action: 1}}, {{Schedule: 255, Partition: 254, Action: 1}}}
	for _, schedule := range ids {
		for _, partition := range ids {
			for _, action := range actions {
				a := api.Act{Schedule: schedule, Partition: partition, Action: action}
				for _, front := range fronts {
					k := api.OK
					switch {
					case schedule < 0 || schedule > 255 || partition < 0 || partition > 255:
						k = api.ErrRange
					case action != 1 && action != 2:
						k = api.ErrForm
					case len(front) > 0 && !ahead(front[len(front)-1], a):
						k = api.ErrOrder
					}
					all := append(slices.Clone(front), a)
					b, e := Put([]byte("front"), all)
					if k == api.OK {
						if e != nil || string(b) != "front"+text(all) {
							t.Errorf("%v: %q %v", all, b, fault.Text(e))
						}
					} else if string(b) != "front" || fault.Of(e) != of(k, len(front)) {
						t.Errorf("%v: %q %v", all, b, fault.Text(e))
					}
				}
			}
		}
	}
}

func TestPutRefuses(t *testing.T) { // P11.1: the first act of which something is wrong, whatever stands behind it
	bad := map[api.Errno][]api.Act{
		api.ErrRange: {{Schedule: -1, Partition: 3, Action: 1}, {Schedule: 256, Partition: 3}, {Schedule: 200, Partition: -1, Action: 3}, {Schedule: 200, Partition: 256, Action: 2}, {Partition: 256, Action: 9}},
		api.ErrForm:  {{Schedule: 200, Partition: 3}, {Schedule: 200, Action: 3}, {Action: -1}, {Schedule: 127, Partition: 128}, {Schedule: 200, Action: 257}},
		api.ErrOrder: {{Schedule: 127, Partition: 128, Action: 1}, {Schedule: 127, Partition: 128, Action: 2}, {Schedule: 127, Partition: 127, Action: 2}, {Schedule: 126, Partition: 255, Action: 2}, {Action: 1}},
	}
	for k, l := range bad {
		for _, a := range l {
			for _, behind := range [][]api.Act{nil, some, {{Schedule: 999}}, {{Action: 1}}} {
				all := append(append(slices.Clone(some[:5]), a), behind...)
				b, e := Put([]byte("front"), all)
				if string(b) != "front" || fault.Of(e) != of(k, 5) || fault.Text(e) != "section 5: at 5: "+fault.Name(k) {
					t.Errorf("%v: %q %v", a, b, fault.Text(e))
				}
			}
		}
	}
	if b, e := Put(nil, []api.Act{{}}); len(b) != 0 || fault.Text(e) != "section 5: at 0: form" {
		t.Errorf("%q %v", b, fault.Text(e))
	}
}

func TestPutIsNewMemory(t *testing.T) { // P11.1: spare room is not written to, and nothing is shared or changed
	for _, l := range [][]api.Act{some, some[:1], nil, {{Action: 9}}, {some[1], some[0]}} {
		given := slices.Clone(l)
		for _, n := range []int{0, 3} {
			room := []byte("abc" + strings.Repeat(".", 100))
			before := bytes.Clone(room)
			a, _ := Put(room[:n], given)
			b, _ := Put(room[:n], given)
			kept := bytes.Clone(b)
			for i := range a[:cap(a)] {
				a[:cap(a)][i] = 77
			}
			if !bytes.Equal(room, before) || !bytes.Equal(b, kept) || !slices.Equal(given, l) {
				t.Errorf("%v: %q %q", l, room, b)
			}
			for i := range room {
				room[i] = 78
			}
			if !bytes.Equal(b, kept) {
				t.Errorf("%v: %q", l, b)
			}
		}
	}
}

func TestRead(t *testing.T) { // P11.1: just as many as are asked for, and the reader is in section 5 then
	for _, front := range []string{"", "\x00", strings.Repeat("x", 300)} {
		for _, back := range []string{"", "\x01\x02\x01", "\xff"} {
			for n := range len(some) + 1 {
				l, r, e := read(front, text(some[:n])+back, n)
				if !slices.Equal(l, some[:n]) || e != nil || r.Err() != nil || r.Place() != len(front)+3*n || r.Left() != len(back) {
					t.Errorf("%q %q %d: %v %v", front, back, n, l, fault.Text(e))
				}
				if r.Fail(api.ErrSum, 5); r.Fault() != of(api.ErrSum, 5) {
					t.Error(r.Fault())
				}
			}
		}
	}
}

func TestReadNone(t *testing.T) { // P11.1: of no acts, or fewer, nothing is read
	for _, n := range []int{0, -1, -2, math.MinInt} {
		for _, s := range []string{"", text(some), "\xff"} {
			l, r, e := read("x", s, n)
			if len(l) != 0 || e != nil || r.Err() != nil || r.Place() != 1 {
				t.Errorf("%q %d: %v %v", s, n, l, fault.Text(e))
			}
			if r.Fail(api.ErrSum, 5); r.Fault() != of(api.ErrSum, 5) {
				t.Error(r.Fault())
			}
		}
	}
}

func TestReadMoreThanThereAre(t *testing.T) { // P11.1: however many are asked for, it ends
	s := text(some)
	for _, n := range []int{len(some) + 1, 65537, 1 << 31, 1 << 40, math.MaxInt} {
		refused(t, s, n, api.ErrShort, len(s))
		refused(t, s+"\xff\xff\x01", n, api.ErrOrder, len(s))
		refused(t, "", n, api.ErrShort, 0)
	}
}

func TestReadEach(t *testing.T) { // P11.1: each two bytes behind an act, with actions that may be and that may not
	a := api.Act{Schedule: 127, Partition: 128, Action: 1}
	front := text([]api.Act{a})
	for s := range 256 {
		for p := range 256 {
			for _, action := range []int{0, 1, 2, 3, 255} {
				b := api.Act{Schedule: s, Partition: p, Action: action}
				k, at := api.OK, 0
				switch {
				case action != 1 && action != 2:
					k, at = api.ErrForm, 5
				case !ahead(a, b):
					k, at = api.ErrOrder, 3
				}
				l, e := Read(reader.New(front+text([]api.Act{b})), 2)
				if k == api.OK {
					if e != nil || !slices.Equal(l, []api.Act{a, b}) {
						t.Error(b, l, fault.Text(e))
					}
				} else if len(l) != 0 || fault.Of(e) != of(k, at) {
					t.Error(b, l, fault.Text(e))
				}
			}
		}
	}
	for action := range 256 {
		s := text([]api.Act{{Action: action}})
		if action != 1 && action != 2 {
			refused(t, s, 1, api.ErrForm, 2)
		} else if l, e := Read(reader.New(s), 1); e != nil || !slices.Equal(l, []api.Act{{Action: action}}) {
			t.Error(action, l, fault.Text(e))
		}
	}
}

func TestReadTheFirst(t *testing.T) { // P11.1: bytes that aren't there, then the action, then the order, act by act
	front := "\x05\x05\x01"
	for _, x := range []struct {
		s  string
		k  api.Errno
		at int
	}{
		{"", api.ErrShort, 0}, {"\x04", api.ErrShort, 1}, {"\x05\x05", api.ErrShort, 2}, {"\x04\x05", api.ErrShort, 2},
		{"\x05\x05\x00", api.ErrForm, 2}, {"\x04\x00\x03", api.ErrForm, 2}, {"\x06\x00\x80\x06\x00\x01", api.ErrForm, 2}, {"\x06\x00\x00\x06", api.ErrForm, 2},
		{"\x05\x05\x01", api.ErrOrder, 0}, {"\x05\x05\x02\xff", api.ErrOrder, 0}, {"\x05\x04\x02\x05\x06\x00", api.ErrOrder, 0}, {"\x04\xff\x01", api.ErrOrder, 0},
		{"\x05\x06\x01", api.ErrShort, 3}, {"\x05\x06\x02\x05\x06", api.ErrShort, 5}, {"\x05\x06\x02\x05\x06\x01", api.ErrOrder, 3}, {"\x06\x00\x02\x05\x06\x01", api.ErrOrder, 3},
	} {
		refused(t, front+x.s, 4, x.k, 3+x.at)
	}
	refused(t, front[:2], 1, api.ErrShort, 2)
	refused(t, front[:1], 1, api.ErrShort, 1)
}

func TestReadBehindWhatIsWrong(t *testing.T) { // P11.1: what was wrong first stays so
	for _, s := range []string{text(some), "", "\x00\x02"} {
		for _, n := range []int{-1, 0, 1, 6, math.MaxInt} {
			r := reader.New(s)
			r.Enter(6)
			r.Fail(api.ErrLength, 9)
			want := api.Fault{Error: api.ErrLength, Section: 6, At: 9}
			if l, e := Read(r, n); len(l) != 0 || fault.Of(e) != want || r.Fault() != want || r.Place() != 0 {
				t.Errorf("%q %d: %v %v", s, n, l, fault.Text(e))
			}
		}
	}
}

func TestReadTwice(t *testing.T) { // P11.1: each call's first act has none ahead of it; the lists share nothing
	s := text(some)
	r := reader.New(s + s)
	a, e := Read(r, len(some))
	b, f := Read(r, len(some))
	if !slices.Equal(a, some) || !slices.Equal(b, some) || e != nil || f != nil || r.Left() != 0 {
		t.Error(a, b, e, f)
	}
	for i := range a[:cap(a)] {
		a[:cap(a)][i].Action++
	}
	if !slices.Equal(b, some) {
		t.Error(b)
	}
}

func TestAllActs(t *testing.T) { // P11.2: more than a module may have
	var l []api.Act
	for i := range 1 << 16 {
		l = append(l, api.Act{Schedule: i >> 8, Partition: i & 255, Action: 1 + i%3%2})
	}
	b, e := Put(nil, l)
	if string(b) != text(l) || e != nil {
		t.Error(fault.Text(e))
	}
	if got, e := Read(reader.New(string(b)), 1<<16); !slices.Equal(got, l) || e != nil {
		t.Error(fault.Text(e))
	}
}

func TestWhatIsPutIsRead(t *testing.T) { // P11.2: lists out of numbers, and the bytes of what is read
	next := ruled(7)
	for range 3000 {
		var l []api.Act
		for i := next(3000); i < 1<<16 && len(l) < 300; i += 1 + next(3000) {
			l = append(l, api.Act{Schedule: i >> 8, Partition: i & 255, Action: 1 + next(2)})
		}
		b, e := Put([]byte("CWM1"), l)
		if e != nil {
			t.Fatal(l, fault.Text(e))
		}
		r := reader.New(string(b))
		r.Text(4)
		got, e := Read(r, len(l))
		if e != nil || !slices.Equal(got, l) || r.Left() != 0 {
			t.Fatal(l, got, fault.Text(e))
		}
	}
}

func TestOfWhatIsReadTheseBytesArePut(t *testing.T) { // P11.2: of bytes that nearly are acts
	next := ruled(11)
	read := 0
	for range 20000 {
		b := []byte(text(some))
		for range 1 + next(2) {
			b[next(len(b))] = byte(next(256))
		}
		r := reader.New(string(b))
		l, e := Read(r, 1+next(len(some)+1))
		if e != nil {
			continue
		}
		read++
		if again, e := Put(nil, l); e != nil || string(again) != string(b[:r.Place()]) {
			t.Fatalf("%q %q %v", b, again, fault.Text(e))
		}
	}
	if read < 1000 {
		t.Error(read)
	}
}
