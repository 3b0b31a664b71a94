package relation

import (
	"math"
	"slices"
	"testing"

	"countwheel/api"
	"countwheel/fault"
)

// odd are numbers such as an id may be, or may not: here any may be.
var odd = []int{math.MinInt, -1 << 32, -256, -1, 0, 1, 2, 127, 254, 255, 256, 1 << 32, math.MaxInt}

// example are the chapter's pairs.
var example = []api.Pair{{From: 1, To: 2}, {From: 2, To: 1}, {From: 2, To: 3}}

// of is a fault at a pair.
func of(k api.Errno, at int) api.Fault { return api.Fault{Error: k, At: at} }

// row are pairs from each id to the next one.
func row(ids ...int) []api.Pair {
	var l []api.Pair
	for i := 1; i < len(ids); i++ {
		l = append(l, api.Pair{From: ids[i-1], To: ids[i]})
	}
	return l
}

// ruled is a row of numbers that a rule makes, each of which is below what it is asked with.
func ruled(x uint64) func(n int) int {
	return func(n int) int {
		x = x*6364136223846793005 + 1442695040888963407
		return int(x>>33) % n
	}
}

// mixed are n pairs of a few ids, in any order, some of them twice.
func mixed(next func(n int) int, n, few int) []api.Pair {
	l := make([]api.Pair, n)
	for i := range l {
		l[i] = api.Pair{From: next(few), To: next(few)}
	}
	return l
}

// some are n ids of a few more than there are in pairs, in any order, some of them twice.
func some(next func(n int) int, n, few int) []int {
	l := make([]int, n)
	for i := range l {
		l[i] = next(few+2) - 1
	}
	return l
}

// each does something with pairs and ids of many shapes, and sees that they stay as they were, with what stands in their spare room.
func each(t *testing.T, do func(l []api.Pair, ids []int, few int)) {
	t.Helper()
	next := ruled(17)
	for n := range 50 {
		for _, few := range []int{1, 2, 3, 5, 9, 16, 30} {
			l, ids := mixed(next, n+2, few), some(next, 2+next(2*few+1), few)
			givenPairs, givenIds := slices.Clone(l), slices.Clone(ids)
			do(l[:n], ids[:len(ids)-2], few)
			if !slices.Equal(l, givenPairs) || !slices.Equal(ids, givenIds) {
				t.Fatal(l, ids, givenPairs, givenIds)
			}
		}
	}
}

// far is how many pairs lead at least from each id (from -1 to few) to each other one, made shorter until nothing changes.
func far(l []api.Pair, few int) map[api.Pair]int {
	m := map[api.Pair]int{}
	for id := -1; id <= few; id++ {
		m[api.Pair{From: id, To: id}] = 0
	}
	for changed := true; changed; {
		changed = false
		for id := -1; id <= few; id++ {
			for _, p := range l {
				n, ok := m[api.Pair{From: id, To: p.From}]
				old, had := m[api.Pair{From: id, To: p.To}]
				if ok && (!had || n+1 < old) {
					m[api.Pair{From: id, To: p.To}] = n + 1
					changed = true
				}
			}
		}
	}
	return m
}

func TestExample(t *testing.T) { // P15.1
	g := Strong(example, []int{1, 2, 3})
	if len(g) != 2 || !slices.Equal(g[0], []int{1, 2}) || !slices.Equal(g[1], []int{3}) {
		t.Error(g)
	}
}

func TestCheckRight(t *testing.T) { // P15.1: pairs that rise, of any ids, which may stand in any order, and twice
	for _, l := range [][]api.Pair{
		nil,
		{},
		{{From: 1, To: 2}},
		{{From: 3, To: 1}},
		example,
		{{From: 1, To: 2}, {From: 1, To: 3}, {From: 2, To: 1}, {From: 2, To: 3}, {From: 3, To: 1}, {From: 3, To: 2}},
		{{From: math.MinInt, To: math.MaxInt}, {From: -1, To: 256}, {From: 256, To: -1}, {From: math.MaxInt, To: math.MinInt}},
	} {
		if e := Check(l, []int{256, 3, 1, math.MaxInt, 2, 1, math.MinInt, -1}); e != nil {
			t.Error(l, fault.Text(e))
		}
	}
	if e := Check(nil, nil); e != nil {
		t.Error(fault.Text(e))
	}
}

func TestCheckWrong(t *testing.T) { // P15.1: each error, by the first pair, and by the first error of it
	ids := []int{3, 1, 2}
	for _, x := range []struct {
		l    []api.Pair
		want api.Fault
	}{
		{row(1, 4), of(api.ErrRef, 0)},
		{row(4, 1), of(api.ErrRef, 0)},
		{row(4, 4), of(api.ErrRef, 0)},
		{row(0, 0), of(api.ErrRef, 0)},
		{row(1, -1), of(api.ErrRef, 0)},
		{row(1, 257), of(api.ErrRef, 0)},
		{row(1, 1), of(api.ErrPair, 0)},
		{row(3, 3), of(api.ErrPair, 0)},
		{append(row(1, 2), row(1, 1)...), of(api.ErrPair, 1)},
		{append(row(2, 3), row(2, 2)...), of(api.ErrPair, 1)},
		{append(row(2, 3), row(1, 4)...), of(api.ErrRef, 1)},
		{append(row(2, 3), row(0, 3)...), of(api.ErrRef, 1)},
		{append(row(2, 3), row(2, 3)...), of(api.ErrOrder, 1)},
		{append(row(2, 3), row(2, 1)...), of(api.ErrOrder, 1)},
		{append(row(2, 1), row(1, 3)...), of(api.ErrOrder, 1)},
		{append(row(1, 2, 3), row(1, 3)...), of(api.ErrOrder, 2)},
		{append(row(1, 2, 3), row(1, 4)...), of(api.ErrRef, 2)},
		{append(row(1, 2, 3), row(3, 3, 1, 9)...), of(api.ErrPair, 2)},
		{append(row(2, 1), row(1, 2, 2, 9)...), of(api.ErrOrder, 1)},
		{append(row(1, 9), row(1, 1, 1)...), of(api.ErrRef, 0)},
	} {
		e := Check(x.l, ids)
		if fault.Of(e) != x.want || fault.Depth(e) != 1 {
			t.Error(x.l, fault.Text(e), x.want)
		}
		if f := Check(x.l, nil); fault.Of(f) != of(api.ErrRef, 0) {
			t.Error(x.l, fault.Text(f))
		}
	}
	if !slices.Equal(ids, []int{3, 1, 2}) {
		t.Error(ids)
	}
	if e := Check(append(row(1, 2), row(1, 2)...), ids); fault.Text(e) != "at 1: order" {
		t.Error(fault.Text(e))
	}
}

// modelCheck tells what is wrong with pairs.
func modelCheck(l []api.Pair, ids []int) api.Fault {
	for i, p := range l {
		from, to := false, false
		for _, id := range ids {
			from, to = from || id == p.From, to || id == p.To
		}
		switch {
		case !from || !to:
			return of(api.ErrRef, i)
		case p.From == p.To:
			return of(api.ErrPair, i)
		case i > 0 && (p.From < l[i-1].From || p.From == l[i-1].From && p.To <= l[i-1].To):
			return of(api.ErrOrder, i)
		}
	}
	return api.Fault{}
}

func TestCheckEach(t *testing.T) { // P15.1: two pairs of any numbers
	for _, ids := range [][]int{odd, {1, 0, 255}, nil} {
		for _, a := range odd {
			for _, b := range odd {
				for _, c := range odd {
					for _, d := range odd {
						l := []api.Pair{{From: a, To: b}, {From: c, To: d}}
						if e := Check(l, ids); fault.Of(e) != modelCheck(l, ids) {
							t.Fatal(l, ids, fault.Text(e))
						}
					}
				}
			}
		}
	}
}

func TestCheckOfAll(t *testing.T) { // P15.1: more pairs than a module may have, and one that is out of its place
	var l []api.Pair
	var ids []int
	for from := range 256 {
		ids = append(ids, 255-from)
		for to := range 256 {
			if from != to {
				l = append(l, api.Pair{From: from, To: to})
			}
		}
	}
	if e := Check(l, ids); e != nil {
		t.Error(fault.Text(e))
	}
	l[60000], l[60001] = l[60001], l[60000]
	if e := Check(l, ids); fault.Of(e) != of(api.ErrOrder, 60001) {
		t.Error(fault.Text(e))
	}
}

func TestMay(t *testing.T) { // P15.1: of pairs in any order, just as they are turned
	l := []api.Pair{{From: 5, To: 1}, {From: 1, To: 5}, {From: 1, To: 1}, {From: 5, To: 1}, {From: -3, To: math.MaxInt}, {From: 7, To: 8}}
	for _, from := range append([]int{5, 7, 8, -3}, odd...) {
		for _, to := range append([]int{5, 7, 8, -3}, odd...) {
			want := from == 5 && to == 1 || from == 1 && to == 5 || from == 1 && to == 1 || from == -3 && to == math.MaxInt || from == 7 && to == 8
			if May(l, from, to) != want || May(nil, from, to) {
				t.Error(from, to)
			}
		}
	}
}

func TestStranded(t *testing.T) { // P15.1: the first one is none of them, whether a row leads back to it or not
	for _, x := range []struct {
		l     []api.Pair
		ids   []int
		first int
		want  []int
	}{
		{nil, nil, 0, nil},
		{nil, []int{1}, 1, nil},
		{nil, []int{3, 1, 2, 3}, 2, []int{1, 3}},
		{nil, []int{3, 1}, 2, []int{1, 3}},
		{example, []int{1, 2, 3, 4}, 1, []int{4}},
		{example, []int{4, 3, 2, 1}, 2, []int{4}},
		{example, []int{4, 3, 2, 1, 4, 2}, 3, []int{1, 2, 4}},
		{example, []int{3, 2, 1}, 9, []int{1, 2, 3}},
		{row(1, 9, 2), []int{3, 2, 1}, 1, []int{3}},
		{row(9, 1, 2), []int{3, 2, 1}, 9, []int{3}},
		{row(1, 1), []int{1, 0}, 1, []int{0}},
		{row(math.MaxInt, math.MinInt), []int{math.MaxInt, 0, math.MinInt, -1}, math.MaxInt, []int{-1, 0}},
	} {
		if s := Stranded(x.l, x.ids, x.first); !slices.Equal(s, x.want) {
			t.Error(x, s)
		}
	}
}

func TestStrandedModel(t *testing.T) { // P15.1
	each(t, func(l []api.Pair, ids []int, few int) {
		m := far(l, few)
		for first := -1; first <= few; first++ {
			var want []int
			for id := -1; id <= few; id++ {
				if _, is := m[api.Pair{From: first, To: id}]; slices.Contains(ids, id) && !is {
					want = append(want, id)
				}
			}
			if s := Stranded(l, ids, first); !slices.Equal(s, want) {
				t.Fatal(l, ids, first, s, want)
			}
		}
	})
}

func TestFinal(t *testing.T) { // P15.1: a pair leads away also to an id that isn't asked for, and to the same one
	for _, x := range []struct {
		l         []api.Pair
		ids, want []int
	}{
		{nil, nil, nil},
		{example, nil, nil},
		{nil, []int{2, 1, 2}, []int{1, 2}},
		{example, []int{1, 2, 3, 4}, []int{3, 4}},
		{example, []int{4, 4, 3, 2, 1, 3}, []int{3, 4}},
		{row(1, 9), []int{1, 2}, []int{2}},
		{row(1, 1), []int{1, 2}, []int{2}},
		{row(0, 1), []int{0, -1}, []int{-1}},
		{row(math.MinInt, math.MaxInt), []int{math.MaxInt, math.MinInt}, []int{math.MaxInt}},
	} {
		if f := Final(x.l, x.ids); !slices.Equal(f, x.want) {
			t.Error(x, f)
		}
	}
	each(t, func(l []api.Pair, ids []int, few int) {
		var want []int
		for id := -1; id <= few; id++ {
			if slices.Contains(ids, id) && !slices.ContainsFunc(l, func(p api.Pair) bool { return p.From == id }) {
				want = append(want, id)
			}
		}
		if f := Final(l, ids); !slices.Equal(f, want) {
			t.Fatal(l, ids, f, want)
		}
	})
}

func TestSteps(t *testing.T) { // P15.1: none of one id to itself, whether there are pairs or not
	for _, id := range odd {
		for _, l := range [][]api.Pair{nil, example, row(id, id), row(0, 1, 2, 0)} {
			if n, ok := Steps(l, id, id); n != 0 || !ok {
				t.Error(l, id, n, ok)
			}
		}
	}
	for _, x := range []struct {
		l        []api.Pair
		from, to int
		n        int
		ok       bool
	}{
		{example, 1, 2, 1, true},
		{example, 1, 3, 2, true},
		{example, 2, 3, 1, true},
		{example, 3, 1, 0, false},
		{example, 1, 4, 0, false},
		{example, 4, 1, 0, false},
		{nil, 0, 1, 0, false},
		{append(row(1, 2, 3, 4, 5), row(2, 5)...), 1, 5, 2, true},
		{append(row(2, 5), row(5, 4, 3, 2, 1)...), 5, 1, 4, true},
		{row(1, 1, 2, 2, 3), 1, 3, 2, true},
		{row(math.MaxInt, math.MinInt, 0), math.MaxInt, 0, 2, true},
	} {
		if n, ok := Steps(x.l, x.from, x.to); n != x.n || ok != x.ok {
			t.Error(x, n, ok)
		}
	}
}

func TestStepsModel(t *testing.T) { // P15.1
	each(t, func(l []api.Pair, _ []int, few int) {
		m := far(l, few)
		for from := -1; from <= few; from++ {
			for to := -1; to <= few; to++ {
				want, is := m[api.Pair{From: from, To: to}]
				if n, ok := Steps(l, from, to); n != want || ok != is {
					t.Fatal(l, from, to, n, ok, want, is)
				}
			}
		}
	})
}

func TestBoth(t *testing.T) { // P15.1: a pair of one id with itself is its own turned one
	for _, x := range [][2][]api.Pair{
		{nil, nil},
		{row(1, 2), nil},
		{row(1, 1), row(1, 1)},
		{example, row(1, 2, 1)},
		{row(2, 1, 2, 1), row(1, 2, 1)},
		{row(1, 2, 3, 1), nil},
		{row(math.MaxInt, math.MinInt, math.MaxInt), row(math.MinInt, math.MaxInt, math.MinInt)},
	} {
		if b := Both(x[0]); !slices.Equal(b, x[1]) {
			t.Error(x, b)
		}
	}
	each(t, func(l []api.Pair, _ []int, few int) {
		var want []api.Pair
		for from := range few {
			for to := range few {
				if p := (api.Pair{From: from, To: to}); slices.Contains(l, p) && slices.Contains(l, api.Pair{From: to, To: from}) {
					want = append(want, p)
				}
			}
		}
		if b := Both(l); !slices.Equal(b, want) {
			t.Fatal(l, b, want)
		}
	})
}

// equal tells whether two lists of groups are one.
func equal(a, b [][]int) bool { return slices.EqualFunc(a, b, slices.Equal[[]int]) }

func TestStrong(t *testing.T) { // P15.1: groups by rows that go through any ids
	for _, x := range []struct {
		l    []api.Pair
		ids  []int
		want [][]int
	}{
		{nil, nil, nil},
		{example, nil, nil},
		{nil, []int{2, 1, 2, 1}, [][]int{{1}, {2}}},
		{example, []int{3, 2, 1, 4, 3}, [][]int{{1, 2}, {3}, {4}}},
		{row(1, 1), []int{1}, [][]int{{1}}},
		{row(1, 2, 3, 4, 1), []int{4, 2}, [][]int{{2, 4}}},
		{row(1, 2, 3, 4), []int{4, 2, 1}, [][]int{{1}, {2}, {4}}},
		{row(4, 3, 2, 1), []int{4, 2, 1}, [][]int{{1}, {2}, {4}}},
		{row(1, 9, 2, 8, 1), []int{1, 2, 3}, [][]int{{1, 2}, {3}}},
		{append(row(1, 4, 1), row(2, 3, 2)...), []int{1, 2, 3, 4}, [][]int{{1, 4}, {2, 3}}},
		{append(row(1, 4, 1, 2), row(2, 3, 2)...), []int{1, 2, 3, 4}, [][]int{{1, 4}, {2, 3}}},
		{append(row(2, 3, 2, 1), row(1, 4, 1)...), []int{1, 2, 3, 4}, [][]int{{1, 4}, {2, 3}}},
		{append(row(1, 2, 3, 1), row(3, 4, 5, 4)...), []int{5, 4, 3, 2, 1}, [][]int{{1, 2, 3}, {4, 5}}},
		{row(math.MaxInt, math.MinInt, math.MaxInt, 0), []int{math.MaxInt, 0, math.MinInt}, [][]int{{math.MinInt, math.MaxInt}, {0}}},
	} {
		if g := Strong(x.l, x.ids); !equal(g, x.want) {
			t.Error(x, g)
		}
	}
}

func TestStrongModel(t *testing.T) { // P15.1
	many := 0
	each(t, func(l []api.Pair, ids []int, few int) {
		m := far(l, few)
		var want [][]int
		told := map[int]bool{}
		for a := -1; a <= few; a++ {
			if told[a] || !slices.Contains(ids, a) {
				continue
			}
			var group []int
			for b := a; b <= few; b++ {
				_, there := m[api.Pair{From: a, To: b}]
				_, back := m[api.Pair{From: b, To: a}]
				if there && back && slices.Contains(ids, b) {
					group = append(group, b)
					told[b] = true
				}
			}
			want = append(want, group)
			if len(group) > 2 {
				many++
			}
		}
		if g := Strong(l, ids); !equal(g, want) {
			t.Fatal(l, ids, g, want)
		}
	})
	if many < 50 {
		t.Error(many)
	}
}

func TestLong(t *testing.T) { // P15.1: long rows end soon, in whatever order their pairs stand
	const n = 200000
	up, down := make([]api.Pair, n), make([]api.Pair, n)
	ids := make([]int, n+1)
	for i := range n {
		up[i] = api.Pair{From: i, To: i + 1}
		down[i] = api.Pair{From: n - i, To: n - i - 1}
		ids[i] = n - i
	}
	both := slices.Concat(up, down)
	if e := Check(up, ids); e != nil {
		t.Error(fault.Text(e))
	}
	for _, x := range []struct {
		l         []api.Pair
		far, back bool
		both, all int
	}{{up, true, false, 0, n + 1}, {down, false, true, 0, n + 1}, {both, true, true, 2 * n, 1}} {
		if g := Strong(x.l, ids); len(g) != x.all || g[0][0] != 0 || x.all == 1 && len(g[0]) != n+1 {
			t.Error(len(g))
		}
		if k, ok := Steps(x.l, 0, n); ok != x.far || ok && k != n {
			t.Error(k, ok)
		}
		if k, ok := Steps(x.l, n, 0); ok != x.back || ok && k != n {
			t.Error(k, ok)
		}
		if b := Both(x.l); len(b) != x.both {
			t.Error(len(b))
		}
		if s := Stranded(x.l, ids, 0); (len(s) == 0) != x.far {
			t.Error(len(s))
		}
		if f := Final(x.l, ids); (len(f) == 0) != (x.far && x.back) {
			t.Error(len(f))
		}
	}
}

func TestStar(t *testing.T) { // P15.1: an id with many pairs, to ids that lead back
	const n = 100000
	var l []api.Pair
	var ids []int
	for i := 1; i <= n; i++ {
		l = append(l, api.Pair{To: i}, api.Pair{From: i})
		ids = append(ids, i)
	}
	if g := Strong(l, ids); len(g) != 1 || !slices.Equal(g[0], ids) {
		t.Error(len(g))
	}
	if k, ok := Steps(l, 1, n); k != 2 || !ok {
		t.Error(k, ok)
	}
}

func TestIsNewMemory(t *testing.T) { // P15.1: no answer shares anything with an argument, nor with another answer
	l, ids := row(1, 2, 1, 3, 4, 3), []int{1, 2, 3, 4, 5, 6}
	spoil := func(lists ...[]int) {
		for _, a := range lists {
			for i := range a[:cap(a)] {
				a[:cap(a)][i] = 77
			}
		}
	}
	for range 2 {
		spoil(Stranded(l, ids, 3), Final(l, ids), Stranded(nil, ids, 1), Final(nil, ids))
		g := Strong(l, ids)
		for i, group := range g {
			kept := slices.Clone(g[(i+1)%len(g)])
			spoil(group)
			if !slices.Equal(g[(i+1)%len(g)], kept) {
				t.Error(g)
			}
		}
		b := Both(l)
		for i := range b[:cap(b)] {
			b[:cap(b)][i] = api.Pair{From: 77}
		}
	}
	if !slices.Equal(l, row(1, 2, 1, 3, 4, 3)) || !slices.Equal(ids, []int{1, 2, 3, 4, 5, 6}) {
		t.Error(l, ids)
	}
	if s := Stranded(l, ids, 3); !slices.Equal(s, []int{1, 2, 5, 6}) {
		t.Error(s)
	}
}
