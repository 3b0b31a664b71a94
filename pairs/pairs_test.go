package pairs

import (
	"bytes"
	"math"
	"slices"
	"strings"
	"testing"

	"countwheel/api"
	"countwheel/fault"
	"countwheel/reader"
)

// some are transitions that rise: the edges of what they may be.
var some = []api.Pair{{From: 0, To: 0}, {From: 0, To: 1}, {From: 0, To: 255}, {From: 1, To: 0}, {From: 127, To: 128}, {From: 128, To: 127}, {From: 255, To: 0}, {From: 255, To: 254}, {From: 255, To: 255}}

// ids are numbers such as an id may be, or may not.
var ids = []int{math.MinInt, -1 << 32, -256, -1, 0, 1, 2, 127, 128, 254, 255, 256, 257, 511, 1 << 32, 1<<32 + 1, math.MaxInt}

// text is pairs' bytes, told another way.
func text(l []api.Pair) string {
	var b []byte
	for _, p := range l {
		b = append(b, byte(p.From), byte(p.To))
	}
	return string(b)
}

// ahead tells whether a pair is ahead of another one, told another way.
func ahead(a, b api.Pair) bool {
	if a.From == b.From {
		return a.To < b.To
	}
	return a.From < b.From
}

// of is a fault of section 4.
func of(k api.Errno, at int) api.Fault { return api.Fault{Error: k, Section: 4, At: at} }

// read reads pairs out of a text in front of which other bytes were read, in another section.
func read(front, s string, n int) ([]api.Pair, *reader.Reader, error) {
	r := reader.New(front + s)
	r.Enter(1)
	r.Text(len(front))
	l, e := Read(r, n)
	return l, r, e
}

// refused tells whether a text is refused at a place of it, and nothing else is told.
func refused(t *testing.T, s string, n int, k api.Errno, at int) {
	t.Helper()
	for _, front := range []string{"", "\xff\xff", strings.Repeat("x", 301)} {
		want := of(k, len(front)+at)
		l, r, e := read(front, s, n)
		if len(l) != 0 || fault.Of(e) != want || r.Fault() != want || fault.Depth(e) != 2 {
			t.Errorf("%q %q %d: %v %v, not %v", front, s, n, l, fault.Text(e), want)
		}
	}
}

// ruled is a row of numbers that a rule makes, each of which is below what it is asked with.
func ruled(x uint64) func(n int) int {
	return func(n int) int {
		x = x*6364136223846793005 + 1442695040888963407
		return int(x>>33) % n
	}
}

// mixed are n pairs of a few ids, in any order, some of them twice.
func mixed(next func(n int) int, n, few int) []api.Pair {
	l := make([]api.Pair, n)
	for i := range l {
		l[i] = api.Pair{From: next(few) - few/3, To: next(few) - few/3}
	}
	return l
}

// marks are where rows of pairs lead to from each id, found by going through all pairs until nothing changes.
func marks(l []api.Pair) map[api.Pair]bool {
	m := map[api.Pair]bool{}
	for _, p := range l {
		m[p] = true
	}
	for size := -1; size != len(m); {
		size = len(m)
		var more []api.Pair
		for a := range m {
			for _, b := range l {
				if a.To == b.From {
					more = append(more, api.Pair{From: a.From, To: b.To})
				}
			}
		}
		for _, p := range more {
			m[p] = true
		}
	}
	return m
}

func TestExample(t *testing.T) { // P10.1
	l := []api.Pair{{From: 1, To: 2}, {From: 2, To: 3}}
	if r := Reach(l, 1); !slices.Equal(r, []int{2, 3}) {
		t.Error(r)
	}
	if r := Reach(l, 2); !slices.Equal(r, []int{3}) {
		t.Error(r)
	}
	for _, from := range []int{3, 0, 4, -1} {
		if r := Reach(l, from); len(r) != 0 {
			t.Error(from, r)
		}
	}
}

func TestLess(t *testing.T) { // P10.1: each pair of numbers beside each other one
	for _, a := range ids {
		for _, b := range ids {
			for _, c := range ids {
				for _, d := range ids {
					p, q := api.Pair{From: a, To: b}, api.Pair{From: c, To: d}
					if Less(p, q) != ahead(p, q) {
						t.Error(p, q)
					}
				}
			}
		}
	}
}

func TestHas(t *testing.T) { // P10.1: of lists in any order
	l := []api.Pair{{From: 5, To: 1}, {From: 1, To: 5}, {From: 1, To: 1}, {From: 5, To: 1}, {From: -3, To: math.MaxInt}}
	for _, p := range l {
		if !Has(l, p) {
			t.Error(p)
		}
	}
	for _, p := range []api.Pair{{}, {From: 5, To: 5}, {From: 1, To: 0}, {From: 5}, {To: 1}, {From: math.MaxInt, To: -3}, {From: -3, To: -3}, {From: 257, To: 261}} {
		if Has(l, p) || Has(nil, p) {
			t.Error(p)
		}
	}
}

func TestSort(t *testing.T) { // P10.1: any pairs, each once, and what was handed in stays as it was
	next := ruled(3)
	for n := range 120 {
		for _, few := range []int{1, 3, 40} {
			room := mixed(next, n+3, few)
			given := slices.Clone(room)
			l := room[:n]
			s := Sort(l)
			for i, p := range s {
				if i > 0 && !ahead(s[i-1], p) || !slices.Contains(l, p) {
					t.Error(l, s)
				}
			}
			for _, p := range l {
				if !slices.Contains(s, p) {
					t.Error(l, s)
				}
			}
			for i := range s[:cap(s)] {
				s[:cap(s)][i] = api.Pair{From: 99}
			}
			if !slices.Equal(room, given) {
				t.Error(room, given)
			}
		}
	}
	if s := Sort([]api.Pair{{From: 1 << 40, To: -1}, {From: math.MinInt, To: 2}, {From: math.MaxInt}, {From: math.MinInt, To: -2}}); !slices.Equal(s, []api.Pair{{From: math.MinInt, To: -2}, {From: math.MinInt, To: 2}, {From: 1 << 40, To: -1}, {From: math.MaxInt}}) {
		t.Error(s)
	}
	if s := Sort(nil); len(s) != 0 {
		t.Error(s)
	}
}

func TestTargets(t *testing.T) { // P10.1: of lists in any order, each once, and nothing is changed
	next := ruled(5)
	for n := range 120 {
		for _, few := range []int{1, 3, 10, 40} {
			l := mixed(next, n, few)
			given := slices.Clone(l)
			for from := -few; from <= few; from++ {
				var want []int
				for to := -few; to <= few; to++ {
					if slices.Contains(l, api.Pair{From: from, To: to}) {
						want = append(want, to)
					}
				}
				if got := Targets(l, from); !slices.Equal(got, want) {
					t.Error(l, from, got, want)
				}
			}
			if !slices.Equal(l, given) {
				t.Error(l, given)
			}
		}
	}
	l := []api.Pair{{From: math.MaxInt, To: math.MaxInt}, {From: math.MaxInt, To: math.MinInt}, {From: math.MinInt, To: 7}, {From: math.MaxInt, To: math.MinInt}}
	if got := Targets(l, math.MaxInt); !slices.Equal(got, []int{math.MinInt, math.MaxInt}) {
		t.Error(got)
	}
	if got := Targets(l, math.MinInt); !slices.Equal(got, []int{7}) {
		t.Error(got)
	}
	if len(Targets(l, 0)) != 0 || len(Targets(nil, 0)) != 0 {
		t.Error("none")
	}
}

func TestReach(t *testing.T) { // P10.1: the id itself just if a row leads back to it
	l := []api.Pair{{From: 4, To: 4}, {From: 3, To: 4}, {From: 2, To: 3}, {From: 3, To: 2}, {From: 1, To: 2}, {From: 1, To: 2}, {From: 9, To: 1}, {From: 4, To: -5}}
	for from, want := range map[int][]int{4: {-5, 4}, 3: {-5, 2, 3, 4}, 2: {-5, 2, 3, 4}, 1: {-5, 2, 3, 4}, 9: {-5, 1, 2, 3, 4}, -5: nil, 0: nil} {
		if r := Reach(l, from); !slices.Equal(r, want) {
			t.Error(from, r, want)
		}
	}
	if len(Reach(nil, 0)) != 0 {
		t.Error("nothing leads nowhere")
	}
}

func TestReachAndClosed(t *testing.T) { // P10.1: held against a model, and nothing is changed
	next := ruled(9)
	for n := range 40 {
		for _, few := range []int{1, 2, 5, 9, 14, 30} {
			l := mixed(next, n, few)
			given := slices.Clone(l)
			m := marks(l)
			var all []api.Pair
			for from := -few; from <= few; from++ {
				var want []int
				for to := -few; to <= few; to++ {
					if m[api.Pair{From: from, To: to}] {
						want = append(want, to)
						all = append(all, api.Pair{From: from, To: to})
					}
				}
				if r := Reach(l, from); !slices.Equal(r, want) {
					t.Error(l, from, r, want)
				}
			}
			if c := Closed(l); !slices.Equal(c, all) {
				t.Error(l, c, all)
			}
			if !slices.Equal(l, given) {
				t.Error(l, given)
			}
		}
	}
	if len(Closed(nil)) != 0 {
		t.Error("nothing")
	}
}

func TestClosed(t *testing.T) { // P10.1: of each From alone, also of pairs that lead to themselves
	for _, x := range [][2][]api.Pair{
		{{{From: 1, To: 2}}, {{From: 1, To: 2}}},
		{{{From: 7, To: 7}}, {{From: 7, To: 7}}},
		{{{From: 2, To: 1}, {From: 1, To: 2}}, {{From: 1, To: 1}, {From: 1, To: 2}, {From: 2, To: 1}, {From: 2, To: 2}}},
		{{{From: math.MaxInt, To: math.MinInt}, {From: math.MinInt, To: 0}}, {{From: math.MinInt, To: 0}, {From: math.MaxInt, To: math.MinInt}, {From: math.MaxInt, To: 0}}},
	} {
		if c := Closed(x[0]); !slices.Equal(c, x[1]) {
			t.Error(x[0], c)
		}
	}
}

func TestReachLong(t *testing.T) { // P10.1: a long row ends soon, in whatever order its pairs stand
	const n = 200000
	up, down := make([]api.Pair, n), make([]api.Pair, n)
	for i := range n {
		up[i] = api.Pair{From: i, To: i + 1}
		down[i] = api.Pair{From: n - i, To: n - i - 1}
	}
	for _, x := range []struct {
		l    []api.Pair
		from int
		size int
	}{{up, 0, n}, {up, n - 1, 1}, {up, n, 0}, {down, n, n}, {down, 0, 0}, {append(up, down...), 0, n + 1}} {
		r := Reach(x.l, x.from)
		if len(r) != x.size || !slices.IsSorted(r) {
			t.Error(x.from, len(r))
		}
	}
}

func TestClosedOfAll(t *testing.T) { // P10.1: as many pairs as ids make
	var l []api.Pair
	for from := range 256 {
		for to := range 256 {
			l = append(l, api.Pair{From: from, To: to})
		}
	}
	if !slices.Equal(Closed(l), l) {
		t.Error("all")
	}
}

func TestPut(t *testing.T) { // P10.1: behind any bytes, of any length
	for _, front := range [][]byte{nil, {}, {7}, []byte("\xff\xff"), bytes.Repeat([]byte{9}, 1000)} {
		for i := range some {
			for j := i; j <= len(some); j++ {
				b, e := Put(front, some[i:j])
				if string(b) != string(front)+text(some[i:j]) || e != nil {
					t.Errorf("%q %v: %q %v", front, some[i:j], b, fault.Text(e))
				}
			}
		}
		if b, e := Put(front, nil); string(b) != string(front) || e != nil {
			t.Errorf("%q: %q %v", front, b, e)
		}
	}
}

func TestPutEach(t *testing.T) { // P10.1: each pair of numbers, the first, and behind another one
	for _, from := range ids {
		for _, to := range ids {
			p := api.Pair{From: from, To: to}
			for _, front := range [][]api.Pair{nil, {{From: 0, To: 0}}, {{From: 127, To: 128}}, {{From: 3, To: 1}, {From: 254, To: 255}}, {{From: 255, To: 254}}} {
				k := api.OK
				switch {
				case from < 0 || from > 255 || to < 0 || to > 255:
					k = api.ErrRange
				case len(front) > 0 && !ahead(front[len(front)-1], p):
					k = api.ErrOrder
				}
				all := append(slices.Clone(front), p)
				b, e := Put([]byte("front"), all)
				if k == api.OK {
					if e != nil || string(b) != "front"+text(all) {
						t.Errorf("%v: %q %v", all, b, fault.Text(e))
					}
				} else if string(b) != "front" || fault.Of(e) != of(k, len(front)) {
					t.Errorf("%v: %q %v", all, b, fault.Text(e))
				}
			}
		}
	}
}

func TestPutRefuses(t *testing.T) { // P10.1: the first pair of which something is wrong, whatever stands behind it
	bad := map[api.Errno][]api.Pair{
		api.ErrRange: {{From: -1, To: 3}, {From: 256, To: 3}, {From: 200, To: -1}, {From: 200, To: 256}, {From: 0, To: 256}, {From: -1, To: -1}},
		api.ErrOrder: {{From: 127, To: 128}, {From: 127, To: 127}, {From: 126, To: 255}, {From: 0, To: 0}},
	}
	for k, l := range bad {
		for _, p := range l {
			for _, behind := range [][]api.Pair{nil, some, {{From: 999}}, {{From: 0, To: 0}}} {
				all := append(append(slices.Clone(some[:5]), p), behind...)
				b, e := Put([]byte("front"), all)
				if string(b) != "front" || fault.Of(e) != of(k, 5) || fault.Text(e) != "section 4: at 5: "+fault.Name(k) {
					t.Errorf("%v: %q %v", p, b, fault.Text(e))
				}
			}
		}
	}
	if b, e := Put(nil, []api.Pair{{From: 0, To: -1}}); len(b) != 0 || fault.Text(e) != "section 4: at 0: range" {
		t.Errorf("%q %v", b, fault.Text(e))
	}
}

func TestPutIsNewMemory(t *testing.T) { // P10.1: spare room is not written to, and nothing is shared or changed
	for _, l := range [][]api.Pair{some, some[:1], nil, {{From: -1}}, {some[1], some[0]}} {
		given := slices.Clone(l)
		for _, n := range []int{0, 3} {
			room := []byte("abc" + strings.Repeat(".", 100))
			before := bytes.Clone(room)
			a, _ := Put(room[:n], given)
			b, _ := Put(room[:n], given)
			kept := bytes.Clone(b)
			for i := range a[:cap(a)] {
				a[:cap(a)][i] = 77
			}
			if !bytes.Equal(room, before) || !bytes.Equal(b, kept) || !slices.Equal(given, l) {
				t.Errorf("%v: %q %q", l, room, b)
			}
			for i := range room {
				room[i] = 78
			}
			if !bytes.Equal(b, kept) {
				t.Errorf("%v: %q", l, b)
			}
		}
	}
}

func TestRead(t *testing.T) { // P10.1: just as many as are asked for, and the reader is in section 4 then
	for _, front := range []string{"", "\x00", strings.Repeat("x", 300)} {
		for _, back := range []string{"", "\x01\x02", "\xff"} {
			for n := range len(some) + 1 {
				l, r, e := read(front, text(some[:n])+back, n)
				if !slices.Equal(l, some[:n]) || e != nil || r.Err() != nil || r.Place() != len(front)+2*n || r.Left() != len(back) {
					t.Errorf("%q %q %d: %v %v", front, back, n, l, fault.Text(e))
				}
				if r.Fail(api.ErrSum, 5); r.Fault() != of(api.ErrSum, 5) {
					t.Error(r.Fault())
				}
			}
		}
	}
}

func TestReadNone(t *testing.T) { // P10.1: of no pairs, or fewer, nothing is read
	for _, n := range []int{0, -1, -2, math.MinInt} {
		for _, s := range []string{"", text(some), "\xff"} {
			l, r, e := read("x", s, n)
			if len(l) != 0 || e != nil || r.Err() != nil || r.Place() != 1 {
				t.Errorf("%q %d: %v %v", s, n, l, fault.Text(e))
			}
			if r.Fail(api.ErrSum, 5); r.Fault() != of(api.ErrSum, 5) {
				t.Error(r.Fault())
			}
		}
	}
}

func TestReadMoreThanThereAre(t *testing.T) { // P10.1: however many are asked for, it ends
	s := text(some)
	for _, n := range []int{len(some) + 1, 65537, 1 << 31, 1 << 40, math.MaxInt} {
		refused(t, s, n, api.ErrShort, len(s))
		refused(t, s+"\xff\xff", n, api.ErrOrder, len(s))
		refused(t, "", n, api.ErrShort, 0)
	}
}

func TestReadEach(t *testing.T) { // P10.1: each two bytes behind a pair, and of them each beginning
	for _, p := range []api.Pair{{From: 0, To: 0}, {From: 127, To: 128}, {From: 255, To: 255}} {
		front := text([]api.Pair{p})
		for a := range 256 {
			refused(t, front+text([]api.Pair{{From: a}})[:1], 2, api.ErrShort, 3)
			for b := range 256 {
				q := api.Pair{From: a, To: b}
				if !ahead(p, q) {
					refused(t, front+text([]api.Pair{q}), 2, api.ErrOrder, 2)
				} else if l, e := Read(reader.New(front+text([]api.Pair{q})), 2); e != nil || !slices.Equal(l, []api.Pair{p, q}) {
					t.Error(p, q, l, fault.Text(e))
				}
				if l, e := Read(reader.New(text([]api.Pair{q})), 1); e != nil || !slices.Equal(l, []api.Pair{q}) {
					t.Error(q, l, fault.Text(e))
				}
			}
		}
		refused(t, front, 2, api.ErrShort, 2)
		refused(t, front[:1], 2, api.ErrShort, 1)
	}
}

func TestReadTheFirst(t *testing.T) { // P10.1: what is wrong first is told, whatever stands behind it
	refused(t, "\x05\x05\x05\x05\x05", 3, api.ErrOrder, 2)
	refused(t, "\x05\x05\x05\x06\x04", 3, api.ErrShort, 5)
	refused(t, "\x05\x05\x05\x06\x05\x05\x00\x00", 5, api.ErrOrder, 4)
}

func TestReadBehindWhatIsWrong(t *testing.T) { // P10.1: what was wrong first stays so
	for _, s := range []string{text(some), "", "\x00\x02"} {
		for _, n := range []int{-1, 0, 1, 6, math.MaxInt} {
			r := reader.New(s)
			r.Enter(6)
			r.Fail(api.ErrLength, 9)
			want := api.Fault{Error: api.ErrLength, Section: 6, At: 9}
			if l, e := Read(r, n); len(l) != 0 || fault.Of(e) != want || r.Fault() != want || r.Place() != 0 {
				t.Errorf("%q %d: %v %v", s, n, l, fault.Text(e))
			}
		}
	}
}

func TestReadTwice(t *testing.T) { // P10.1: each call's first pair has none ahead of it; the lists share nothing
	s := text(some)
	r := reader.New(s + s)
	a, e := Read(r, len(some))
	b, f := Read(r, len(some))
	if !slices.Equal(a, some) || !slices.Equal(b, some) || e != nil || f != nil || r.Left() != 0 {
		t.Error(a, b, e, f)
	}
	for i := range a[:cap(a)] {
		a[:cap(a)][i].To++
	}
	if !slices.Equal(b, some) {
		t.Error(b)
	}
}

func TestAllPairs(t *testing.T) { // P10.2: more than a module may have
	var l []api.Pair
	for i := range 1 << 16 {
		l = append(l, api.Pair{From: i >> 8, To: i & 255})
	}
	b, e := Put(nil, l)
	if string(b) != text(l) || e != nil {
		t.Error(fault.Text(e))
	}
	if got, e := Read(reader.New(string(b)), 1<<16); !slices.Equal(got, l) || e != nil {
		t.Error(fault.Text(e))
	}
}

func TestWhatIsPutIsRead(t *testing.T) { // P10.2: lists out of numbers, and the bytes of what is read
	next := ruled(7)
	for range 3000 {
		var l []api.Pair
		for i := next(3000); i < 1<<16 && len(l) < 300; i += 1 + next(3000) {
			l = append(l, api.Pair{From: i >> 8, To: i & 255})
		}
		b, e := Put([]byte("CWM1"), l)
		if e != nil {
			t.Fatal(l, fault.Text(e))
		}
		r := reader.New(string(b))
		r.Text(4)
		got, e := Read(r, len(l))
		if e != nil || !slices.Equal(got, l) || r.Left() != 0 {
			t.Fatal(l, got, fault.Text(e))
		}
	}
}

func TestOfWhatIsReadTheseBytesArePut(t *testing.T) { // P10.2: of bytes that nearly are pairs
	next := ruled(11)
	read := 0
	for range 20000 {
		b := []byte(text(some))
		for range 1 + next(2) {
			b[next(len(b))] = byte(next(256))
		}
		r := reader.New(string(b))
		l, e := Read(r, 1+next(len(some)+1))
		if e != nil {
			continue
		}
		read++
		if again, e := Put(nil, l); e != nil || string(again) != string(b[:r.Place()]) {
			t.Fatalf("%q %q %v", b, again, fault.Text(e))
		}
	}
	if read < 1000 {
		t.Error(read)
	}
}
