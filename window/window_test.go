package window

import (
	"math"
	"slices"
	"testing"

	"countwheel/api"
	"countwheel/fault"
)

// most is the greatest number of ticks.
const most = 1 << 20

// odd are numbers such as one of ticks may be, or may not.
var odd = []int{math.MinInt, math.MinInt + 1, -1 << 62, -1 << 32, -11, -1, 0, 1, 3, 10, 11, 1 << 32, 1 << 62, math.MaxInt - 1, math.MaxInt}

// of is a fault at a window.
func of(k api.Errno, at int) api.Fault { return api.Fault{Error: k, At: at} }

// ruled is a row of numbers that a rule makes, each of which is below what it is asked with.
func ruled(x uint64) func(n int) int {
	return func(n int) int {
		x = x*6364136223846793005 + 1442695040888963407
		return int(x>>33) % n
	}
}

// copyOf is a schedule made anew.
func copyOf(x api.Schedule) api.Schedule {
	x.Windows = append([]api.Window(nil), x.Windows...)
	x.Needs = append([]api.Need(nil), x.Needs...)
	return x
}

// same tells whether two schedules are one.
func same(a, b api.Schedule) bool {
	return a.Id == b.Id && a.Frame == b.Frame && slices.Equal(a.Windows, b.Windows) && slices.Equal(a.Needs, b.Needs)
}

// modelWord is whose each tick is: painted from the last window to the first one, so that the first one is seen.
func modelWord(x api.Schedule) []int {
	var l []int
	for range x.Frame {
		l = append(l, -1)
	}
	for i := len(x.Windows) - 1; i >= 0; i-- {
		for n := range x.Windows[i].Length {
			if t := x.Windows[i].Offset + n; t >= 0 && t < x.Frame {
				l[t] = x.Windows[i].Id
			}
		}
	}
	return l
}

// modelGaps are a word's rows of -1.
func modelGaps(word []int) []api.Window {
	var l []api.Window
	ahead := 0
	for t, id := range word {
		if id == -1 && ahead != -1 {
			l = append(l, api.Window{Id: -1, Offset: t})
		}
		if id == -1 {
			l[len(l)-1].Length++
		}
		ahead = id
	}
	return l
}

// modelCheck tells what is wrong with windows of small numbers, tick by tick.
func modelCheck(x api.Schedule, ids []int) api.Fault {
	for i, w := range x.Windows {
		known := false
		for _, id := range ids {
			known = known || id == w.Id
		}
		if !known {
			return of(api.ErrRef, i)
		}
		n := 0
		for t := w.Offset; t < w.Offset+w.Length; t++ {
			n++
			if t < 0 || t >= x.Frame {
				return of(api.ErrWindow, i)
			}
		}
		if n == 0 || w.Offset < 0 {
			return of(api.ErrWindow, i)
		}
		if i > 0 && x.Windows[i-1].Offset > w.Offset {
			return of(api.ErrOrder, i)
		}
		if i > 0 && x.Windows[i-1].Offset+x.Windows[i-1].Length > w.Offset {
			return of(api.ErrLap, i)
		}
	}
	return api.Fault{}
}

// held holds all that is told of a schedule's ticks against the model.
func held(t *testing.T, x api.Schedule) {
	t.Helper()
	given := copyOf(x)
	word := modelWord(x)
	counts := map[int]int{-1: 0, 0: 0, 1: 0, 255: 0, 256: 0, -2: 0}
	for tick, id := range word {
		counts[id]++
		if tick < 100 || tick%997 == 0 || tick > len(word)-100 {
			if got := Owner(x, tick); got != id {
				t.Fatalf("%v: Owner of %d: %d, not %d", x, tick, got, id)
			}
		}
	}
	if got := Word(x); !slices.Equal(got, word) {
		t.Fatalf("%v: Word %v, not %v", x, got, word)
	}
	for id, n := range counts {
		if got := Ticks(x, id); got != n {
			t.Fatalf("%v: Ticks of %d: %d, not %d", x, id, got, n)
		}
	}
	if got := Busy(x); got != len(word)-counts[-1] {
		t.Fatalf("%v: Busy %d, not %d", x, got, len(word)-counts[-1])
	}
	if got, want := Gaps(x), modelGaps(word); !slices.Equal(got, want) {
		t.Fatalf("%v: Gaps %v, not %v", x, got, want)
	}
	for _, tick := range []int{math.MinInt, -x.Frame, -2, -1, x.Frame, x.Frame + 1, 2 * most, math.MaxInt} {
		if got := Owner(x, tick); got != -1 {
			t.Fatalf("%v: Owner of %d: %d", x, tick, got)
		}
	}
	if !same(x, given) {
		t.Fatalf("%v: was %v", x, given)
	}
}

// some is a schedule of ten ticks that has gaps ahead of, between and behind its windows.
func some() api.Schedule {
	return api.Schedule{Id: 7, Frame: 10, Windows: []api.Window{{Id: 1, Offset: 1, Length: 3}, {Id: 2, Offset: 6, Length: 2}, {Id: 1, Offset: 8, Length: 1}}}
}

func TestCheckExample(t *testing.T) { // P13.1: and its text
	x := api.Schedule{Frame: 10, Windows: []api.Window{{Id: 3, Offset: 0, Length: 4}, {Id: 3, Offset: 3, Length: 2}}}
	e := Check(x, []int{3})
	if fault.Of(e) != of(api.ErrLap, 1) || fault.Text(e) != "at 1: overlap" || fault.Depth(e) != 1 {
		t.Error(fault.Text(e))
	}
	x.Windows = []api.Window{{Id: 3, Length: 1}, {Id: 3, Offset: 2, Length: 4}, {Id: 3, Offset: 5, Length: 2}}
	if s := fault.Text(fault.In(3, fault.At(1, Check(x, []int{3})))); s != "section 3: at 1: at 2: overlap" {
		t.Error(s)
	}
}

func TestCheckRight(t *testing.T) { // P13.1: windows that are right, to the edges
	ids := []int{9, 0, -4, math.MaxInt, 9}
	for _, x := range []api.Schedule{
		{},
		{Frame: -1},
		{Frame: math.MinInt, Windows: []api.Window{}},
		{Frame: 1, Windows: []api.Window{{Length: 1}}},
		{Frame: 10, Windows: []api.Window{{Id: 9, Length: 10}}},
		{Frame: 10, Windows: []api.Window{{Id: 9, Offset: 9, Length: 1}}},
		{Frame: 10, Windows: []api.Window{{Id: 9, Length: 4}, {Id: 9, Offset: 4, Length: 1}, {Id: 0, Offset: 5, Length: 5}}},
		{Frame: 10, Windows: []api.Window{{Id: -4, Offset: 3, Length: 1}, {Id: math.MaxInt, Offset: 7, Length: 2}}},
		{Frame: math.MaxInt, Windows: []api.Window{{Id: 9, Length: math.MaxInt}}},
		{Frame: math.MaxInt, Windows: []api.Window{{Id: 9, Length: math.MaxInt - 1}, {Id: 0, Offset: math.MaxInt - 1, Length: 1}}},
	} {
		if e := Check(x, ids); e != nil {
			t.Error(x, fault.Text(e))
		}
	}
}

func TestCheckWrong(t *testing.T) { // P13.1: each error, by the first window, and by the first error of it
	far := api.Window{Id: 1, Offset: 5, Length: 2}
	for _, y := range []struct {
		windows []api.Window
		want    api.Fault
	}{
		{[]api.Window{{Id: 2, Length: 1}}, of(api.ErrRef, 0)},
		{[]api.Window{{Id: -1, Length: 1}}, of(api.ErrRef, 0)},
		{[]api.Window{{Id: 2, Offset: -1, Length: 11}}, of(api.ErrRef, 0)},
		{[]api.Window{far, {Id: 2, Offset: 3, Length: 9}}, of(api.ErrRef, 1)},
		{[]api.Window{{Id: 1}}, of(api.ErrWindow, 0)},
		{[]api.Window{{Id: 1, Offset: 3, Length: -1}}, of(api.ErrWindow, 0)},
		{[]api.Window{{Id: 1, Offset: -1, Length: 3}}, of(api.ErrWindow, 0)},
		{[]api.Window{{Id: 1, Length: 11}}, of(api.ErrWindow, 0)},
		{[]api.Window{{Id: 1, Offset: 9, Length: 2}}, of(api.ErrWindow, 0)},
		{[]api.Window{{Id: 1, Offset: 10, Length: 1}}, of(api.ErrWindow, 0)},
		{[]api.Window{{Id: 1, Offset: 11, Length: 1}}, of(api.ErrWindow, 0)},
		{[]api.Window{{Id: 1, Offset: 10}}, of(api.ErrWindow, 0)},
		{[]api.Window{far, {Id: 1, Offset: 3}}, of(api.ErrWindow, 1)},
		{[]api.Window{far, {Id: 1, Offset: 6, Length: 5}}, of(api.ErrWindow, 1)},
		{[]api.Window{far, {Id: 1, Offset: 3, Length: 8}}, of(api.ErrWindow, 1)},
		{[]api.Window{{Id: 1, Offset: math.MaxInt, Length: math.MaxInt}}, of(api.ErrWindow, 0)},
		{[]api.Window{{Id: 1, Offset: 1, Length: math.MaxInt}}, of(api.ErrWindow, 0)},
		{[]api.Window{{Id: 1, Offset: math.MinInt, Length: math.MinInt}}, of(api.ErrWindow, 0)},
		{[]api.Window{{Id: 1, Offset: 5, Length: math.MinInt}}, of(api.ErrWindow, 0)},
		{[]api.Window{far, {Id: 1, Offset: 4, Length: 1}}, of(api.ErrOrder, 1)},
		{[]api.Window{far, {Id: 1, Offset: 4, Length: 3}}, of(api.ErrOrder, 1)},
		{[]api.Window{far, {Id: 1, Offset: 5, Length: 2}}, of(api.ErrLap, 1)},
		{[]api.Window{far, {Id: 1, Offset: 6, Length: 1}}, of(api.ErrLap, 1)},
		{[]api.Window{{Id: 1, Length: 1}, far, {Id: 1, Offset: 4, Length: 1}, {Id: 2}}, of(api.ErrOrder, 2)},
		{[]api.Window{far, {Id: 1, Offset: 7, Length: 1}, {Id: 1, Offset: 7, Length: 1}, {}}, of(api.ErrLap, 2)},
	} {
		e := Check(api.Schedule{Frame: 10, Windows: y.windows}, []int{5, 1})
		if fault.Of(e) != y.want || fault.Depth(e) != 1 {
			t.Errorf("%v: %s, not %v", y.windows, fault.Text(e), y.want)
		}
	}
	for _, ids := range [][]int{nil, {}, {2, 0, -1}} {
		if e := Check(some(), ids); fault.Of(e) != of(api.ErrRef, 0) {
			t.Error(ids, fault.Text(e))
		}
	}
}

func TestCheckOddNumbers(t *testing.T) { // P13.1: any numbers, by what no sum can be too great for
	for _, frame := range odd {
		for _, offset := range odd {
			for _, length := range odd {
				x := api.Schedule{Frame: frame, Windows: []api.Window{{Offset: offset, Length: length}}}
				// Unsigned, the sum of two that aren't below 0 has room.
				right := length >= 1 && offset >= 0 && frame >= 0 && uint(offset)+uint(length) <= uint(frame)
				want := of(api.ErrWindow, 0)
				if right {
					want = api.Fault{}
				}
				if e := Check(x, []int{0}); fault.Of(e) != want || (e == nil) != right {
					t.Errorf("%v: %s", x, fault.Text(e))
				}
			}
		}
	}
}

func TestCheckAgainstTheModel(t *testing.T) { // P13.1
	next := ruled(3)
	seen := map[api.Fault]int{}
	for range 60000 {
		x := api.Schedule{Frame: next(12)}
		at := 0
		for range next(5) {
			w := api.Window{Id: next(5), Offset: at + next(3), Length: 1 + next(3)}
			switch next(12) {
			case 0:
				w.Offset -= 1 + next(4)
			case 1:
				w.Length -= 1 + next(3)
			}
			x.Windows = append(x.Windows, w)
			at = w.Offset + w.Length
		}
		ids := []int{3, 2, 0, 1}[:3+next(2)]
		given, gave := copyOf(x), slices.Clone(ids)
		want := modelCheck(x, ids)
		seen[want]++
		if e := Check(x, ids); fault.Of(e) != want || (e == nil) != (want == api.Fault{}) {
			t.Fatalf("%v %v: %s, not %v", x, ids, fault.Text(e), want)
		}
		if !same(x, given) || !slices.Equal(ids, gave) {
			t.Fatal(x, ids)
		}
	}
	for _, k := range []api.Errno{api.ErrRef, api.ErrWindow, api.ErrOrder, api.ErrLap} {
		if seen[of(k, 1)] < 100 {
			t.Error(k, seen)
		}
	}
	if seen[api.Fault{}] < 1000 {
		t.Error(seen)
	}
}

func TestCheckOfMany(t *testing.T) { // P13.1: long lists of windows and ids don't multiply
	n := 1 << 17
	x := api.Schedule{Frame: n}
	ids := make([]int, n)
	for i := range n {
		x.Windows = append(x.Windows, api.Window{Id: i, Offset: i, Length: 1})
		ids[n-1-i] = i
	}
	if e := Check(x, ids); e != nil {
		t.Error(fault.Text(e))
	}
	if ids[0] != n-1 || ids[n-1] != 0 {
		t.Error("ids are sorted")
	}
	if e := Check(x, ids[1:]); fault.Of(e) != of(api.ErrRef, n-1) {
		t.Error(fault.Text(e))
	}
}

func TestTicks(t *testing.T) { // P13.1: by hand
	x := some()
	held(t, x)
	if w := Word(x); !slices.Equal(w, []int{-1, 1, 1, 1, -1, -1, 2, 2, 1, -1}) {
		t.Error(w)
	}
	for tick, id := range []int{-1, 1, 1, 1, -1, -1, 2, 2, 1, -1, -1} {
		if got := Owner(x, tick); got != id {
			t.Error(tick, got)
		}
	}
	if Ticks(x, 1) != 4 || Ticks(x, 2) != 2 || Ticks(x, -1) != 4 || Ticks(x, 3) != 0 || Busy(x) != 6 {
		t.Error(Ticks(x, 1), Ticks(x, 2), Ticks(x, -1), Ticks(x, 3), Busy(x))
	}
	if g := Gaps(x); !slices.Equal(g, []api.Window{{Id: -1, Offset: 0, Length: 1}, {Id: -1, Offset: 4, Length: 2}, {Id: -1, Offset: 9, Length: 1}}) {
		t.Error(g)
	}
}

func TestTicksOfEdges(t *testing.T) { // P13.1: the first window counts; none, all, and less than one tick
	for _, x := range []api.Schedule{
		{Frame: 1},
		{Frame: 10},
		{Frame: 1, Windows: []api.Window{{Id: 255, Length: 1}}},
		{Frame: 10, Windows: []api.Window{{Id: 0, Length: 10}}},
		{Frame: 10, Windows: []api.Window{{Id: 4, Length: most}}},
		{Frame: 10, Windows: []api.Window{{Id: 4, Offset: 3, Length: most}, {Id: 5, Length: most}}},
		{Frame: 10, Windows: []api.Window{{Id: 4, Offset: 10, Length: 3}}},
		{Frame: 10, Windows: []api.Window{{Id: 4, Offset: most, Length: most}}},
		{Frame: 10, Windows: []api.Window{{Id: 4, Offset: 5}}},
		{Frame: 10, Windows: []api.Window{{Id: 4, Offset: 3}, {Id: 5, Offset: 3, Length: 2}, {Id: 6, Offset: 4}}},
		{Frame: 10, Windows: []api.Window{{Id: 4, Offset: 3, Length: 2}, {Id: 5, Length: 10}, {Id: 6, Offset: 2, Length: 8}}},
		{Frame: 10, Windows: []api.Window{{Id: 6, Offset: 8, Length: 2}, {Id: 4, Offset: 3, Length: 2}, {Id: 5, Offset: 2, Length: 7}}},
		{Frame: 10, Windows: []api.Window{{Id: 4, Offset: 3, Length: 2}, {Id: 4, Offset: 5, Length: 2}, {Id: 4, Offset: 4, Length: 2}}},
		{Frame: 10, Windows: []api.Window{{Id: 4, Offset: 9, Length: 1}, {Id: 5, Offset: 0, Length: 1}}},
	} {
		held(t, x)
	}
	lapped := api.Schedule{Frame: 6, Windows: []api.Window{{Id: 2, Offset: 2, Length: 2}, {Id: 1, Offset: 1, Length: 4}}}
	if w := Word(lapped); !slices.Equal(w, []int{-1, 1, 2, 2, 1, -1}) || Owner(lapped, 2) != 2 || Ticks(lapped, 1) != 2 || Busy(lapped) != 4 {
		t.Error(w)
	}
}

func TestTicksAgainstTheModel(t *testing.T) { // P13.1: windows in any order, one over the other
	next := ruled(5)
	for i := range 20000 {
		x := api.Schedule{Id: next(256), Frame: 1 + next(30)}
		for range next(9) {
			x.Windows = append(x.Windows, api.Window{Id: next(4), Offset: next(x.Frame + 4), Length: next(8)})
		}
		if i%50 == 0 {
			x.Frame = 1 + next(3000)
			for range 247 {
				x.Windows = append(x.Windows, api.Window{Id: next(256), Offset: next(3000), Length: next(40)})
			}
		}
		held(t, x)
	}
}

func TestTicksOfTheGreatest(t *testing.T) { // P13.1: a frame of 2^20, and 256 windows
	x := api.Schedule{Frame: most}
	for i := range 256 {
		x.Windows = append(x.Windows, api.Window{Id: i, Offset: i * 4096, Length: 4095})
	}
	held(t, x)
	slices.Reverse(x.Windows)
	for i := range x.Windows {
		x.Windows[i].Length = most
	}
	held(t, x)
	held(t, api.Schedule{Frame: most, Windows: []api.Window{{Id: 3, Length: most}}})
	held(t, api.Schedule{Frame: most, Windows: []api.Window{{Id: 3, Offset: most, Length: most}}})
}

func TestWordOfAnyNumbers(t *testing.T) { // P13.1: windows that begin ahead of the frame, or end beyond all numbers
	for _, y := range []struct {
		x    api.Schedule
		want []int
	}{
		{api.Schedule{}, nil},
		{api.Schedule{Frame: -3, Windows: []api.Window{{Id: 1, Offset: -3, Length: 9}}}, nil},
		{api.Schedule{Frame: math.MinInt, Windows: []api.Window{{Id: 1, Length: 9}}}, nil},
		{api.Schedule{Frame: 4, Windows: []api.Window{{Id: 1, Offset: -2, Length: 4}}}, []int{1, 1, -1, -1}},
		{api.Schedule{Frame: 4, Windows: []api.Window{{Id: 1, Offset: -2, Length: 3}}}, []int{1, -1, -1, -1}},
		{api.Schedule{Frame: 4, Windows: []api.Window{{Id: 1, Offset: -2, Length: 2}}}, []int{-1, -1, -1, -1}},
		{api.Schedule{Frame: 4, Windows: []api.Window{{Id: 1, Offset: math.MinInt, Length: math.MaxInt}}}, []int{-1, -1, -1, -1}},
		{api.Schedule{Frame: 4, Windows: []api.Window{{Id: 1, Offset: 2, Length: math.MaxInt}}}, []int{-1, -1, 1, 1}},
		{api.Schedule{Frame: 4, Windows: []api.Window{{Id: 1, Offset: 2, Length: math.MinInt}}}, []int{-1, -1, -1, -1}},
		{api.Schedule{Frame: 4, Windows: []api.Window{{Id: 1, Offset: -5, Length: math.MinInt}}}, []int{-1, -1, -1, -1}},
		{api.Schedule{Frame: 4, Windows: []api.Window{{Id: 1, Offset: math.MaxInt, Length: math.MaxInt}}}, []int{-1, -1, -1, -1}},
		{api.Schedule{Frame: 4, Windows: []api.Window{{Id: -7, Offset: 1, Length: 1}, {Id: -1, Offset: 2, Length: 1}, {Id: math.MaxInt, Length: 4}}}, []int{math.MaxInt, -7, -1, math.MaxInt}},
	} {
		if w := Word(y.x); !slices.Equal(w, y.want) {
			t.Errorf("%v: %v, not %v", y.x, w, y.want)
		}
		for tick, id := range y.want {
			if got := Owner(y.x, tick); got != id {
				t.Errorf("%v: %d at %d", y.x, got, tick)
			}
		}
	}
	long := api.Schedule{Frame: 3*most + 1, Windows: []api.Window{{Id: 8, Offset: 3 * most, Length: 1}}}
	for range 300 {
		long.Windows = append(long.Windows, api.Window{Id: len(long.Windows), Offset: 9 * len(long.Windows), Length: 20})
	}
	if w := Word(long); len(w) != 3*most+1 || !slices.Equal(w, modelWord(long)) || w[3*most] != 8 {
		t.Error(len(w))
	}
}

func TestWordOfManyWindows(t *testing.T) { // P13.1: windows that lie over one another don't multiply
	n := 1 << 17
	x := api.Schedule{Frame: n}
	for i := range n {
		x.Windows = append(x.Windows, api.Window{Id: i, Offset: n - 1 - i, Length: n})
	}
	for tick, id := range Word(x) {
		if id != n-1-tick {
			t.Fatal(tick, id)
		}
	}
	slices.Reverse(x.Windows)
	if w := Word(x); len(w) != n || slices.Max(w) != n-1 || slices.Min(w) != n-1 {
		t.Error(len(w))
	}
}

func TestOthersEnd(t *testing.T) { // P13.1: of others they tell something
	for _, frame := range odd {
		for _, offset := range odd {
			for _, length := range odd {
				x := api.Schedule{Frame: frame, Windows: []api.Window{{Id: 5, Offset: offset, Length: length}, {Id: -1, Offset: 3, Length: 4}, {Id: 1 << 40, Offset: length, Length: offset}}}
				Word(x)
				Owner(x, 3)
				Owner(x, math.MaxInt-1)
				Ticks(x, 5)
				Busy(x)
				Gaps(x)
			}
		}
	}
}

func TestFramesOfNoTicks(t *testing.T) { // P13.1: of these it is told that they have none
	for _, frame := range []int{math.MinInt, -7, -1, 0} {
		x := api.Schedule{Frame: frame, Windows: []api.Window{{Id: 5, Offset: -9, Length: 20}, {Id: 6, Offset: frame, Length: 1}}}
		if Owner(x, 0) != -1 || Owner(x, -1) != -1 || Ticks(x, 5) != 0 || Ticks(x, -1) != 0 || Busy(x) != 0 || len(Gaps(x)) != 0 || len(Word(x)) != 0 {
			t.Error(frame, Word(x), Gaps(x))
		}
	}
}

func TestWhatIsToldIsNew(t *testing.T) { // P13.1: nothing is shared, and nothing kept
	x := some()
	x.Windows = append(make([]api.Window, 0, 9), x.Windows...)
	given := copyOf(x)
	w, g := Word(x), Gaps(x)
	for i := range w {
		w[i] = 77
	}
	for i := range g {
		g[i] = api.Window{Id: 77, Offset: 77}
	}
	if !same(x, given) || x.Windows[:4][3] != (api.Window{}) {
		t.Error(x)
	}
	if again := Word(x); !slices.Equal(again, modelWord(given)) || !slices.Equal(Gaps(x), modelGaps(again)) {
		t.Error(again)
	}
	x.Windows[0].Id = 9
	if Owner(x, 1) != 9 || Ticks(x, 9) != 3 || Word(x)[1] != 9 {
		t.Error("an earlier schedule is told")
	}
}

func TestSort(t *testing.T) { // P13.1: by Offset, then Length, then Id
	for _, y := range [][2][]api.Window{
		{nil, nil},
		{{}, nil},
		{{{Id: 1, Offset: 2, Length: 3}}, {{Id: 1, Offset: 2, Length: 3}}},
		{{{Id: 1, Offset: 2, Length: 1}, {Id: 2, Offset: 1, Length: 2}}, {{Id: 2, Offset: 1, Length: 2}, {Id: 1, Offset: 2, Length: 1}}},
		{{{Id: 1, Offset: 1, Length: 2}, {Id: 2, Offset: 1, Length: 1}}, {{Id: 2, Offset: 1, Length: 1}, {Id: 1, Offset: 1, Length: 2}}},
		{{{Id: 2, Offset: 1, Length: 1}, {Id: 1, Offset: 1, Length: 1}, {Id: 2, Offset: 1, Length: 1}}, {{Id: 1, Offset: 1, Length: 1}, {Id: 2, Offset: 1, Length: 1}, {Id: 2, Offset: 1, Length: 1}}},
		{{{Id: math.MaxInt}, {Id: math.MinInt}, {Length: math.MinInt}, {Offset: math.MaxInt}, {Offset: math.MinInt}}, {{Offset: math.MinInt}, {Length: math.MinInt}, {Id: math.MinInt}, {Id: math.MaxInt}, {Offset: math.MaxInt}}},
	} {
		given := slices.Clone(y[0])
		if got := Sort(y[0]); !slices.Equal(got, y[1]) || !slices.Equal(y[0], given) {
			t.Errorf("%v: %v, not %v", given, got, y[1])
		}
	}
}

func TestSortOfAny(t *testing.T) { // P13.1: the same windows, none ahead of a lesser one; the list and its spare room stay
	next := ruled(9)
	for range 3000 {
		l := make([]api.Window, next(64), 64)
		count := map[api.Window]int{}
		for i := range l {
			l[i] = api.Window{Id: next(3) - 1, Offset: next(3) - 1, Length: next(3) - 1}
			count[l[i]]++
		}
		given := slices.Clone(l)
		got := Sort(l)
		for i, w := range got {
			count[w]--
			if i == 0 {
				continue
			}
			a := got[i-1]
			if a.Offset > w.Offset || a.Offset == w.Offset && (a.Length > w.Length || a.Length == w.Length && a.Id > w.Id) {
				t.Fatal(given, got)
			}
		}
		for _, n := range count {
			if n != 0 {
				t.Fatal(given, got)
			}
		}
		for i := range got {
			got[i].Id = 99
		}
		_ = append(got, api.Window{Id: 98})
		if !slices.Equal(l, given) || slices.ContainsFunc(l[len(l):64], func(w api.Window) bool { return w != api.Window{} }) {
			t.Fatal(given, l[:64])
		}
	}
}

func TestTouch(t *testing.T) { // P13.1: of all small windows, tick by tick
	var l []api.Window
	for offset := -4; offset < 5; offset++ {
		for length := -2; length < 5; length++ {
			l = append(l, api.Window{Id: len(l), Offset: offset, Length: length})
		}
	}
	for _, a := range l {
		ticks := map[int]bool{}
		for t := a.Offset; t < a.Offset+a.Length; t++ {
			ticks[t] = true
		}
		for _, b := range l {
			want := false
			for t := b.Offset; t < b.Offset+b.Length; t++ {
				want = want || ticks[t]
			}
			if Touch(a, b) != want {
				t.Error(a, b, !want)
			}
		}
	}
}

func TestTouchFarAway(t *testing.T) { // P13.1: sums up to 2^62, and what has no ticks, whatever its numbers
	far := 1 << 62
	for _, y := range []struct {
		a, b api.Window
		want bool
	}{
		{api.Window{Id: 1, Offset: 0, Length: far}, api.Window{Id: 1, Offset: far - 1, Length: 1}, true},
		{api.Window{Id: 1, Offset: 0, Length: far - 1}, api.Window{Id: 1, Offset: far - 1, Length: 1}, false},
		{api.Window{Id: 1, Offset: math.MinInt, Length: math.MaxInt}, api.Window{Id: 2, Offset: -2, Length: 9}, true},
		{api.Window{Id: 1, Offset: math.MinInt, Length: math.MaxInt}, api.Window{Id: 2, Offset: -1, Length: 9}, false},
		{api.Window{Id: 1, Offset: math.MinInt, Length: -1}, api.Window{Id: 2, Offset: 0, Length: 9}, false},
		{api.Window{Id: 1, Offset: -far, Length: far + 1}, api.Window{Id: 2, Offset: 0, Length: far}, true},
		{api.Window{Id: 1, Offset: -far, Length: far}, api.Window{Id: 2, Offset: 0, Length: far}, false},
	} {
		if Touch(y.a, y.b) != y.want || Touch(y.b, y.a) != y.want {
			t.Error(y)
		}
	}
	for _, a := range odd {
		for _, b := range odd {
			Touch(api.Window{Offset: a, Length: b}, api.Window{Offset: b, Length: a}) // it ends
		}
	}
}

func TestRightWindows(t *testing.T) { // P13.2: Busy is the sum of lengths, and each tick of a window its partition's
	next := ruled(13)
	for range 5000 {
		x := api.Schedule{Frame: 1 + next(200)}
		sum := 0
		for at := next(5); ; {
			w := api.Window{Id: next(6), Offset: at, Length: 1 + next(9)}
			if w.Offset+w.Length > x.Frame {
				break
			}
			x.Windows = append(x.Windows, w)
			sum += w.Length
			at = w.Offset + w.Length + next(3)*next(4)
		}
		if e := Check(x, []int{0, 1, 2, 3, 4, 5}); e != nil {
			t.Fatal(x, fault.Text(e))
		}
		if Busy(x) != sum {
			t.Fatal(x, Busy(x), sum)
		}
		word := Word(x)
		for _, w := range x.Windows {
			for n := range w.Length {
				if Owner(x, w.Offset+n) != w.Id || word[w.Offset+n] != w.Id {
					t.Fatal(x, w, word)
				}
			}
		}
		gaps := 0
		for _, g := range Gaps(x) {
			gaps += g.Length
			for _, w := range x.Windows {
				if Touch(g, w) {
					t.Fatal(x, g, w)
				}
			}
		}
		if gaps != x.Frame-sum || Ticks(x, -1) != gaps {
			t.Fatal(x, gaps)
		}
	}
}
