package hyper

import (
	"maps"
	"math"
	"math/big"
	"slices"
	"testing"

	"countwheel/api"
	"countwheel/check"
	"countwheel/image"
)

// ruled is a row of numbers that a rule makes, each of which is below what it is asked with.
func ruled(x uint64) func(n int) int {
	return func(n int) int {
		x = x*6364136223846793005 + 1442695040888963407
		return int(x>>33) % n
	}
}

// odd are numbers that nothing in a valid module is.
var odd = []int{math.MinInt, math.MinInt + 1, -1 << 33, -256, -2, -1, 256, 257, 1 << 31, 1 << 32, 1<<32 + 1, 1 << 62, math.MaxInt}

func TestDivisor(t *testing.T) { // P35.1
	for _, r := range [][3]int{{12, 18, 6}, {0, 0, 0}, {0, 5, 5}, {5, 0, 5}, {-12, 18, 6}, {12, -18, 6}, {-12, -18, 6}, {0, -7, 7}, {-7, 0, 7}, {1, math.MaxInt, 1}, {math.MaxInt, math.MaxInt, math.MaxInt}, {-math.MaxInt, math.MaxInt, math.MaxInt}, {-math.MaxInt, 0, math.MaxInt}, {1 << 62, 1 << 40, 1 << 40}, {1 << 62, -3, 1}} {
		if d := Divisor(r[0], r[1]); d != r[2] {
			t.Error(r, d)
		}
	}
	for a := -60; a <= 60; a++ {
		for b := -60; b <= 60; b++ {
			want := 0 // of 0 and 0
			for d := 1; d <= 60; d++ {
				if a%d == 0 && b%d == 0 && (a != 0 || b != 0) {
					want = d
				}
			}
			if d := Divisor(a, b); d != want {
				t.Fatal(a, b, d, want)
			}
		}
	}
	next := ruled(1)
	for range 5000 {
		common := 1 + next(1000)
		a, b := common*(next(1<<31)<<20>>next(50)), common*(next(1<<31)<<20>>next(50))
		want := new(big.Int).GCD(nil, nil, big.NewInt(int64(a)), big.NewInt(int64(b)))
		for _, d := range []int{Divisor(a, b), Divisor(b, a), Divisor(-a, b), Divisor(a, -b), Divisor(-b, -a)} {
			if int64(d) != want.Int64() {
				t.Fatal(a, b, d, want)
			}
		}
	}
	for _, n := range odd { // of the least int it tells something
		Divisor(math.MinInt, n)
		Divisor(n, math.MinInt)
	}
}

// multiple is the least number that both divide, as far as it goes.
func multiple(a, b uint64) uint64 {
	if a == 0 || b == 0 {
		return 0
	}
	x, y := new(big.Int).SetUint64(a), new(big.Int).SetUint64(b)
	n := new(big.Int).Mul(x, y)
	n.Div(n, new(big.Int).GCD(nil, nil, x, y))
	if !n.IsUint64() {
		return math.MaxUint64
	}
	return n.Uint64()
}

func TestMultiple(t *testing.T) { // P35.1
	const most = math.MaxUint64
	for _, r := range [][3]uint64{
		{4, 6, 12}, {0, 0, 0}, {0, 3, 0}, {3, 0, 0}, {most, 0, 0}, {1, 1, 1}, {7, 1, 7}, {6, 6, 6}, {most, 1, most}, {most, most, most}, {most, 2, most}, {most, 3, most},
		{1 << 63, 2, 1 << 63}, {1 << 63, 3, most}, {1 << 63, 1 << 62, 1 << 63}, {1 << 32, 1<<32 - 1, 1<<64 - 1<<32}, {1<<32 + 1, 1<<32 - 1, most}, {1<<32 + 1, 1 << 32, most}, {3, 1 << 62, 3 << 62}, {most - 1, most, most}, {6148914691236517205, 3, most},
	} {
		if n := Multiple(r[0], r[1]); n != r[2] {
			t.Error(r, n)
		}
	}
	for a := range uint64(60) {
		for b := range uint64(60) {
			want := uint64(0)
			for n := uint64(1); want == 0 && a > 0 && b > 0; n++ {
				if n%a == 0 && n%b == 0 {
					want = n
				}
			}
			if n := Multiple(a, b); n != want {
				t.Fatal(a, b, n, want)
			}
		}
	}
	next := ruled(2)
	for range 5000 {
		a := (uint64(next(1<<31))<<33 | uint64(next(1<<31))<<2) >> next(64)
		b := (uint64(next(1<<31))<<33 | uint64(next(1<<31))<<2) >> next(64)
		if n, m := Multiple(a, b), Multiple(b, a); n != multiple(a, b) || m != n {
			t.Fatal(a, b, n, m)
		}
	}
}

func TestSpan(t *testing.T) { // P35.1
	if n := Span(api.Module{}); n != 1 {
		t.Error(n)
	}
	primes := []int{1048573, 1048571, 1048559, 1048549, 1048517}
	for _, r := range []struct {
		frames []int
		want   uint64
	}{
		{[]int{1}, 1}, {[]int{7}, 7}, {[]int{4, 6, 1}, 12}, {[]int{6, 10, 15}, 30}, {[]int{1 << 20, 1 << 19, 3}, 3 << 20},
		{primes[:3], 1048573 * 1048571 * 1048559}, {primes[:4], math.MaxUint64}, {primes, math.MaxUint64}, {append(slices.Clone(primes), 3, 5, 17, 2), math.MaxUint64},
	} {
		var m api.Module
		for i, n := range r.frames {
			m.Schedules = append(m.Schedules, api.Schedule{Id: i, Frame: n})
		}
		if n := Span(m); n != r.want {
			t.Error(r, n)
		}
	}
	next := ruled(3)
	for range 2000 {
		var m api.Module
		want := big.NewInt(1)
		for i := range 1 + next(5) {
			n := 1 + next(1<<(1+next(20)))
			m.Schedules = append(m.Schedules, api.Schedule{Id: i, Frame: n})
			b := big.NewInt(int64(n))
			want.Div(new(big.Int).Mul(want, b), new(big.Int).GCD(nil, nil, want, b))
		}
		if !want.IsUint64() {
			want.SetUint64(math.MaxUint64)
		}
		if n := Span(m); n != want.Uint64() {
			t.Fatal(m, n, want)
		}
	}
}

// painted is a schedule's word, window by window.
func painted(x api.Schedule) []int {
	l := slices.Repeat([]int{-1}, x.Frame)
	for _, w := range x.Windows {
		for i := range w.Length {
			l[w.Offset+i] = w.Id
		}
	}
	return l
}

// mixed is a valid module of up to so many schedules, of short frames.
func mixed(t *testing.T, next func(n int) int, most, dense int) api.Module {
	t.Helper()
	m := api.Module{Parts: []api.Partition{{Id: 0, Name: "A"}, {Id: 3, Name: "B"}, {Id: 4, Name: "C"}}}
	id := next(3)
	long := 1 + next(6)
	for range 1 + next(most) {
		x := api.Schedule{Id: id, Frame: 1 + next(long)}
		for at := next(2); at < x.Frame; at += next(3) {
			w := api.Window{Id: []int{0, 3}[next(2)], Offset: at, Length: min(1+next(2), x.Frame-at)}
			x.Windows = append(x.Windows, w)
			at += w.Length
		}
		m.Schedules = append(m.Schedules, x)
		id += 1 + next(4)
	}
	m.First = m.Schedules[next(len(m.Schedules))].Id
	for _, a := range m.Schedules {
		for _, b := range m.Schedules {
			if a.Id != b.Id && next(10) < dense {
				m.Pairs = append(m.Pairs, api.Pair{From: a.Id, To: b.Id})
			}
		}
	}
	if e := check.Module(m); e != nil {
		t.Fatal(m, e)
	}
	return m
}

// taken is what a way takes.
func taken(m api.Module, ids []int) int {
	n := 0
	for _, id := range ids[:len(ids)-1] {
		for _, x := range m.Schedules {
			if x.Id == id {
				n += x.Frame
			}
		}
	}
	return n
}

// ways are all from the last one of some schedules on, by rising ids.
func ways(m api.Module, ahead []int, to int) [][]int {
	here := ahead[len(ahead)-1]
	if here == to {
		return [][]int{slices.Clone(ahead)}
	}
	var l [][]int
	for _, x := range m.Schedules {
		if slices.Contains(m.Pairs, api.Pair{From: here, To: x.Id}) && !slices.Contains(ahead, x.Id) {
			l = append(l, ways(m, append(slices.Clone(ahead), x.Id), to)...)
		}
	}
	return l
}

// leastOf is the first of those that take least, and whether others do, too.
func leastOf(m api.Module, l [][]int) ([]int, bool) {
	best := l[0]
	several := false
	for _, w := range l[1:] {
		switch n, least := taken(m, w), taken(m, best); {
		case n < least:
			best, several = w, false
		case n == least:
			several = true
		}
	}
	return best, several
}

func TestWay(t *testing.T) { // P35.1: held against all ways that there are
	next := ruled(4)
	some, none, others := 0, 0, 0
	for i := range 4000 {
		m := mixed(t, next, 6, 2+i%5)
		far := 0
		for _, a := range m.Schedules {
			for _, b := range m.Schedules {
				l := ways(m, []int{a.Id}, b.Id)
				ids, n, ok := Way(m, a.Id, b.Id)
				if len(l) == 0 {
					none++
					if ok || n != 0 || len(ids) != 0 {
						t.Fatal(m, a.Id, b.Id, ids, n)
					}
					continue
				}
				want, several := leastOf(m, l)
				if !ok || !slices.Equal(ids, want) || n != taken(m, want) {
					t.Fatal(m, a.Id, b.Id, ids, n, want)
				}
				if a.Id == m.First {
					far = max(far, n)
				}
				some++
				if several {
					others++
				}
			}
		}
		if n := Far(m); n != far {
			t.Fatal(m, n, far)
		}
	}
	if some < 10000 || none < 5000 || others < 1000 {
		t.Error(some, none, others)
	}
}

// chained is a module of schedules of these frames, with ids from 0 on, with these transitions.
func chained(frames []int, leads ...[2]int) api.Module {
	m := api.Module{Parts: []api.Partition{{Name: "A"}}}
	for i, n := range frames {
		m.Schedules = append(m.Schedules, api.Schedule{Id: i, Frame: n})
	}
	for _, l := range leads {
		m.Pairs = append(m.Pairs, api.Pair{From: l[0], To: l[1]})
	}
	return m
}

func TestWayWrittenOut(t *testing.T) { // P35.1
	m := chained([]int{4, 9, 2, 3, 100, 7}, [2]int{0, 1}, [2]int{0, 2}, [2]int{0, 4}, [2]int{1, 5}, [2]int{2, 3}, [2]int{2, 4}, [2]int{3, 5}, [2]int{4, 5})
	for _, r := range []struct {
		from, to int
		ids      []int
		takes    int
	}{
		{0, 0, []int{0}, 0}, {5, 5, []int{5}, 0},
		{0, 5, []int{0, 2, 3, 5}, 9}, // more schedules, but fewer ticks than by 1
		{0, 4, []int{0, 4}, 4},       // the last one's frame has no part in it
		{1, 5, []int{1, 5}, 9}, {4, 5, []int{4, 5}, 100}, {2, 5, []int{2, 3, 5}, 5},
	} {
		if ids, n, ok := Way(m, r.from, r.to); !ok || n != r.takes || !slices.Equal(ids, r.ids) {
			t.Error(r, ids, n, ok)
		}
	}
	for _, r := range [][2]int{{5, 0}, {1, 0}, {1, 2}, {3, 4}, {0, 6}, {6, 0}, {6, 6}, {-1, 0}, {0, -1}, {-1, -1}, {0, 256}, {math.MinInt, 0}, {0, math.MaxInt}, {math.MaxInt, math.MaxInt}} {
		if ids, n, ok := Way(m, r[0], r[1]); ok || n != 0 || ids != nil {
			t.Error(r, ids, n, ok)
		}
	}
	if n := Far(m); n != 9 {
		t.Error(n)
	}
	// Of ways that take as much: 0 1 3 ahead of 0 2 3, and 0 1 4 3 as well.
	for _, m := range []api.Module{
		chained([]int{2, 5, 5, 1}, [2]int{0, 1}, [2]int{0, 2}, [2]int{1, 3}, [2]int{2, 3}),
		chained([]int{2, 1, 3, 1, 2}, [2]int{0, 1}, [2]int{0, 2}, [2]int{1, 4}, [2]int{2, 3}, [2]int{4, 3}),
	} {
		ids, n, ok := Way(m, 0, 3)
		if !ok || ids[1] != 1 || n != taken(m, ids) {
			t.Error(m, ids, n)
		}
	}
	if n := Far(chained([]int{5})); n != 0 {
		t.Error(n)
	}
	m = chained([]int{5, 7, 3, 900}, [2]int{1, 2}, [2]int{2, 0}, [2]int{3, 1})
	m.First = 1
	if n := Far(m); n != 10 { // to 0; from 3 on there are longer ones, but First is 1
		t.Error(n)
	}
}

func TestWayFull(t *testing.T) { // P35.1: all schedules that there may be, each of which leads to each, or to the next one
	var all [][2]int
	var row [][2]int
	frames := make([]int, api.MaxScheds)
	for i := range api.MaxScheds {
		frames[i] = api.MaxFrame
		for j := range api.MaxScheds {
			if i != j {
				all = append(all, [2]int{i, j})
			}
		}
		if i > 0 {
			row = append(row, [2]int{i - 1, i})
		}
	}
	if ids, n, ok := Way(chained(frames, all...), 3, 11); !ok || n != api.MaxFrame || !slices.Equal(ids, []int{3, 11}) {
		t.Error(ids, n)
	}
	m := chained(frames, row...)
	if ids, n, ok := Way(m, 0, 15); !ok || n != 15*api.MaxFrame || len(ids) != 16 || !slices.IsSorted(ids) {
		t.Error(ids, n)
	}
	if n := Far(m); n != 15*api.MaxFrame {
		t.Error(n)
	}
	// Each leads to the next one, and to that behind it: by all of them it takes least, as frames halve, and then some.
	for i := range frames {
		frames[i] = 1 << (19 - i)
	}
	frames[0] = 1
	m = chained(frames, slices.DeleteFunc(all, func(l [2]int) bool { return l[1] != l[0]+1 && l[1] != l[0]+2 })...)
	for to := range frames {
		want, _ := leastOf(m, ways(m, []int{0}, to))
		if ids, n, ok := Way(m, 0, to); !ok || !slices.Equal(ids, want) || n != taken(m, want) {
			t.Error(to, ids, n, want)
		}
	}
}

func TestShares(t *testing.T) { // P35.1
	next := ruled(5)
	refs := 0
	for range 4000 {
		m := mixed(t, next, 4, 5)
		var run, word []int
		known := true
		for range next(7) { // any row of schedules, also one that is no run
			x := m.Schedules[next(len(m.Schedules))]
			run = append(run, x.Id)
			word = append(word, painted(x)...)
		}
		if next(4) == 0 && len(run) > 0 {
			run[next(len(run))] = odd[next(len(odd))]
			known = false
			refs++
		}
		want := map[int]int{}
		for _, id := range word {
			if id != -1 {
				want[id]++
			}
		}
		n, all, k := Shares(m, run)
		switch {
		case !known:
			if k != api.ErrRef || n != nil || all != 0 {
				t.Fatal(m, run, n, all, k)
			}
		case k != api.OK || all != len(word) || !maps.Equal(n, want):
			t.Fatal(m, run, n, all, k)
		}
	}
	if refs < 500 {
		t.Error(refs)
	}
	m := mixed(t, next, 1, 0)
	id := m.First
	for _, run := range [][]int{{id + 1}, {id, id + 1}, {id + 1, id}, {-1}, {id, -1, id}} {
		if n, all, k := Shares(m, run); k != api.ErrRef || n != nil || all != 0 {
			t.Error(run, n, all, k)
		}
	}
	// A word that would be longer than what can be told.
	long := chained([]int{api.MaxFrame, 3})
	long.Schedules[0].Windows = []api.Window{{Id: 0, Length: api.MaxFrame - 1}}
	long.Schedules[1].Windows = []api.Window{{Id: 0, Length: 1}, {Id: 5, Offset: 1, Length: 1}}
	n, all, k := Shares(long, append(make([]int, 1<<20), 1, 1))
	if k != api.OK || all != 1<<40+6 || !maps.Equal(n, map[int]int{0: 1<<40 - 1<<20 + 2, 5: 2}) {
		t.Error(n, all, k)
	}
}

// longest is the longest row of ticks of a word that aren't an id's.
func longest(word []int, id int) int {
	most, row := 0, 0
	for _, owner := range word {
		row++
		if owner == id {
			row = 0
		}
		most = max(most, row)
	}
	return most
}

func TestWait(t *testing.T) { // P35.1
	next := ruled(6)
	for range 3000 {
		m := mixed(t, next, 4, 5)
		for _, id := range []int{-1, 0, 3, 4, 7, -2, math.MinInt, math.MaxInt} {
			want := 0
			for _, x := range m.Schedules {
				n := longest(slices.Repeat(painted(x), 3), id)
				if !slices.Contains(painted(x), id) {
					n = x.Frame
				}
				want = max(want, n)
			}
			if n := Wait(m, id); n != want {
				t.Fatal(m, id, n, want)
			}
		}
	}
}

// runs are the words of all runs of so many schedules, the first of which has an id, and the last of which runs so often.
func runs(m api.Module, id, frames, often int) [][]int {
	var own []int
	for _, x := range m.Schedules {
		if x.Id == id {
			own = painted(x)
		}
	}
	if frames == 1 {
		return [][]int{slices.Repeat(own, often)}
	}
	var l [][]int
	for _, x := range m.Schedules {
		if x.Id != id && !slices.Contains(m.Pairs, api.Pair{From: id, To: x.Id}) {
			continue
		}
		for _, w := range runs(m, x.Id, frames-1, often) {
			l = append(l, slices.Concat(own, w))
		}
	}
	return l
}

// most is the longest row of ticks without an id in any run of 5 schedules, the last of which runs so often.
func most(m api.Module, id, often int) int {
	n := 0
	for _, w := range runs(m, m.First, 5, often) {
		n = max(n, longest(w, id))
	}
	return n
}

func TestWorst(t *testing.T) { // P35.1: held against all runs that are long enough
	next := ruled(7)
	ends, endless, beyond := 0, 0, 0
	for i := range 4000 {
		m := mixed(t, next, 4, 3+i%4)
		for _, id := range []int{-1, 0, 3} {
			// At most 4 frames lead to any schedule. A row that grows with the last one, as often as it would take to be the longest one, grows for ever.
			n, longer := most(m, id, 1), most(m, id, 20)
			got, ok := Worst(m, id)
			if n != longer {
				endless++
				if ok || got != 0 {
					t.Fatal(m, id, got)
				}
				continue
			}
			ends++
			if !ok || got != n {
				t.Fatal(m, id, got, n)
			}
			if n > Wait(m, id) {
				beyond++
			}
		}
		for _, id := range []int{4, 7, -2, math.MinInt, math.MaxInt} { // without any tick
			if n, ok := Worst(m, id); ok || n != 0 {
				t.Fatal(m, id, n)
			}
		}
	}
	if ends < 1000 || endless < 1000 || beyond < 200 {
		t.Error(ends, endless, beyond)
	}
}

func TestWorstWrittenOut(t *testing.T) { // P35.1
	own := func(offset int) []api.Window { return []api.Window{{Id: 0, Offset: offset, Length: 1}} }
	m := chained([]int{10, 10, 10}, [2]int{0, 1}, [2]int{1, 0}, [2]int{2, 0})
	m.Schedules[0].Windows, m.Schedules[1].Windows = own(0), own(9)
	if n, ok := Worst(m, 0); !ok || n != 18 { // 2 has no tick of it, but nothing leads there
		t.Error(n, ok)
	}
	if n := Wait(m, 0); n != 10 { // 2 counts here
		t.Error(n)
	}
	if n, ok := Worst(m, -1); !ok || n != 2 {
		t.Error(n, ok)
	}
	m.Pairs = m.Pairs[1:2] // from 1 to 0 alone
	if n, ok := Worst(m, 0); !ok || n != 9 {
		t.Error(n, ok)
	}
	m.First = 1
	if n, ok := Worst(m, 0); !ok || n != 9 { // no tick is behind the one of 1, none ahead of that of 0
		t.Error(n, ok)
	}
	m.First = 2
	if n, ok := Worst(m, 0); ok || n != 0 { // 2 is the first one
		t.Error(n, ok)
	}
	one := chained([]int{3})
	one.Schedules[0].Windows = []api.Window{{Id: 0, Length: 3}}
	if n, ok := Worst(one, 0); !ok || n != 0 || Wait(one, 0) != 0 {
		t.Error(n, ok)
	}
	if n, ok := Worst(one, -1); ok || n != 0 || Wait(one, -1) != 3 { // nobody has no tick
		t.Error(n, ok)
	}
	// Of the longest frames.
	frames := slices.Repeat([]int{api.MaxFrame}, api.MaxScheds)
	var row [][2]int
	for i := range 15 {
		row = append(row, [2]int{i, i + 1})
	}
	long := chained(frames, row...)
	for i := range long.Schedules {
		long.Schedules[i].Windows = own(i % 2 * (api.MaxFrame - 1))
	}
	if n, ok := Worst(long, 0); !ok || n != 2*api.MaxFrame-2 || Wait(long, 0) != api.MaxFrame-1 {
		t.Error(n, ok)
	}
}

func TestNothingShared(t *testing.T) { // P35.1: what was handed in isn't changed, nor its spare room; what is told is new
	next := ruled(8)
	for range 300 {
		m := mixed(t, next, 4, 5)
		m.Pairs = append(make([]api.Pair, 0, len(m.Pairs)+9), m.Pairs...)
		slices.Reverse(m.Pairs) // so that to sort them in their place would be seen
		given := image.Clone(m)
		run := append(make([]int, 0, 9), m.First, m.First)
		for range 2 {
			ids, _, _ := Way(m, m.First, m.Schedules[0].Id)
			n, _, _ := Shares(m, run)
			clear(ids)
			clear(n)
			Far(m)
			Span(m)
			Wait(m, 0)
			Worst(m, 0)
		}
		if !image.Same(m, given) || !slices.Equal(run[:9], []int{m.First, m.First, 0, 0, 0, 0, 0, 0, 0}) {
			t.Fatal(m, run[:9])
		}
		for _, p := range m.Pairs[len(m.Pairs):cap(m.Pairs)] {
			if p != (api.Pair{}) {
				t.Fatal(m)
			}
		}
	}
}

// worn is a module that need not be valid.
func worn(next func(n int) int) api.Module {
	n := func(below int) int {
		if next(12) == 0 {
			return odd[next(len(odd))]
		}
		return next(below)
	}
	m := api.Module{First: n(4)}
	for range next(6) {
		x := api.Schedule{Id: n(4), Frame: n(5)}
		if x.Frame > 1<<27 && x.Frame < 1<<40 {
			x.Frame = 1 // no words of gigabytes
		}
		for range next(4) {
			x.Windows = append(x.Windows, api.Window{Id: n(3) - 1, Offset: n(4), Length: n(4)})
		}
		m.Schedules = append(m.Schedules, x)
	}
	for range next(16) {
		m.Pairs = append(m.Pairs, api.Pair{From: n(5), To: n(5)})
	}
	return m
}

func TestWorn(t *testing.T) { // of modules that aren't valid each call tells something: it ends, and is the same again
	next := ruled(9)
	for range 5000 {
		m := worn(next)
		given := image.Clone(m)
		var run []int
		for range next(5) {
			run = append(run, next(5))
		}
		if Span(m) != Span(m) || Far(m) != Far(m) {
			t.Fatal(m)
		}
		for id := -1; id < 5; id++ {
			n, ok := Worst(m, id)
			if again, is := Worst(m, id); again != n || is != ok || !ok && n != 0 || Wait(m, id) != Wait(m, id) {
				t.Fatal(m, id)
			}
			for to := range 5 {
				ids, n, ok := Way(m, id, to)
				again, l, is := Way(m, id, to)
				if ok != is || n != l || !slices.Equal(ids, again) || !ok && (n != 0 || len(ids) != 0) || ok && (ids[0] != id || ids[len(ids)-1] != to) {
					t.Fatal(m, id, to, ids, n)
				}
			}
		}
		n, all, k := Shares(m, run)
		if again, l, c := Shares(m, run); k != c || all != l || !maps.Equal(n, again) || k != api.OK && (n != nil || all != 0) {
			t.Fatal(m, run)
		}
		if !image.Same(m, given) {
			t.Fatal(m, given)
		}
	}
}
