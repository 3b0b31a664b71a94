package shift

import (
	"math"
	"slices"
	"testing"

	"countwheel/api"
	"countwheel/need"
	"countwheel/scheds"
	"countwheel/window"
)

// odd are numbers of times, of ticks and of ids, at the edges and beyond.
var odd = []int{math.MinInt, math.MinInt + 1, -1 << 62, -1 << 21, -257, -2, -1, 0, 1, 2, 3, 255, 256, 257, 1 << 19, 1<<20 - 1, 1 << 20, 1<<20 + 1, 1 << 32, 1 << 62, 1<<62 + 1, math.MaxInt - 1, math.MaxInt}

// ruled is a row of numbers that a rule makes, each of which is below what it is asked with.
func ruled(x uint64) func(n int) int {
	return func(n int) int {
		x = x*6364136223846793005 + 1442695040888963407
		return int(x>>33) % n
	}
}

// copyOf is a schedule made anew.
func copyOf(x api.Schedule) api.Schedule {
	x.Windows = append([]api.Window(nil), x.Windows...)
	x.Needs = append([]api.Need(nil), x.Needs...)
	return x
}

// same tells whether two schedules are one.
func same(a, b api.Schedule) bool {
	return a.Id == b.Id && a.Frame == b.Frame && slices.Equal(a.Windows, b.Windows) && slices.Equal(a.Needs, b.Needs)
}

// empty tells whether a schedule is zero.
func empty(x api.Schedule) bool {
	return x.Id == 0 && x.Frame == 0 && len(x.Windows) == 0 && len(x.Needs) == 0
}

// painted is a plain schedule's word, window by window.
func painted(x api.Schedule) []int {
	l := slices.Repeat([]int{-1}, x.Frame)
	for _, w := range x.Windows {
		for i := range w.Length {
			l[w.Offset+i] = w.Id
		}
	}
	return l
}

// runsOf are rows of one owner, told another way: tick by tick onto the last window.
func runsOf(word []int) []api.Window {
	var l []api.Window
	for t, id := range word {
		n := len(l)
		switch {
		case id == -1:
		case n > 0 && l[n-1].Id == id && l[n-1].Offset+l[n-1].Length == t:
			l[n-1].Length++
		default:
			l = append(l, api.Window{Id: id, Offset: t, Length: 1})
		}
	}
	return l
}

// modelPlain tells whether a schedule is plain, as the chapters of scheds, window and need say it.
func modelPlain(x api.Schedule) bool {
	byte1 := func(n int) bool { return n >= 0 && n <= 255 }
	ticks := func(n int) bool { return n >= 0 && n <= 1<<20 }
	if !byte1(x.Id) || !ticks(x.Frame) || x.Frame == 0 || len(x.Windows) > 256 || len(x.Needs) > 32 {
		return false
	}
	end := 0
	for _, w := range x.Windows {
		if !byte1(w.Id) || !ticks(w.Offset) || !ticks(w.Length) || w.Length == 0 || w.Offset < end || w.Offset+w.Length > x.Frame {
			return false
		}
		end = w.Offset + w.Length
	}
	word := painted(x)
	for i, n := range x.Needs {
		if !byte1(n.Id) || i > 0 && n.Id <= x.Needs[i-1].Id || n.Period < 1 || x.Frame%n.Period != 0 || n.Budget < 0 {
			return false
		}
		for from := 0; from < x.Frame; from += n.Period {
			have := 0
			for _, id := range word[from : from+n.Period] {
				if id == n.Id {
					have++
				}
			}
			if have < n.Budget {
				return false
			}
		}
	}
	return true
}

// mixed is a plain schedule: windows side by side and apart, also such as go on in one another, and needs that are met.
func mixed(t *testing.T, next func(n int) int) api.Schedule {
	t.Helper()
	x := api.Schedule{Id: next(256)}
	at := 0
	for range next(9) {
		at += max(0, next(4)-1)
		w := api.Window{Id: []int{0, 1, 2, 255}[next(4)], Offset: at, Length: 1 + next(3)}
		x.Windows = append(x.Windows, w)
		at += w.Length
	}
	x.Frame = max(1, at+max(0, next(4)-1))
	for id := range 4 {
		p := 1 + next(x.Frame)
		if n, k := need.Least(x, id, p); k == api.OK && next(2) == 0 {
			x.Needs = append(x.Needs, api.Need{Id: id, Period: p, Budget: next(n + 1)})
		}
	}
	if !modelPlain(x) {
		t.Fatal(x)
	}
	return x
}

// usual is a plain schedule of 4 ticks, 1 1 - 2, whose first two windows go on in one another.
func usual() api.Schedule {
	return api.Schedule{
		Id: 3, Frame: 4,
		Windows: []api.Window{{Id: 1, Length: 1}, {Id: 1, Offset: 1, Length: 1}, {Id: 2, Offset: 3, Length: 1}},
		Needs:   []api.Need{{Id: 1, Period: 4, Budget: 2}, {Id: 7, Period: 2}},
	}
}

// answer is what a call tells.
type answer struct {
	x api.Schedule
	k api.Errno
}

// of is an answer of two values.
func of(x api.Schedule, k api.Errno) answer { return answer{x, k} }

// word holds an answer to a word: of x's id, without needs, of windows that are as few as can be.
func word(t *testing.T, got answer, id int, want []int) {
	t.Helper()
	l := runsOf(want)
	if len(l) > 256 {
		refused(t, got, api.ErrMany)
		return
	}
	if got.k != api.OK || !same(got.x, api.Schedule{Id: id, Frame: len(want), Windows: l}) {
		t.Fatalf("%v, not of %d: %v", got, id, want)
	}
	if !Plain(got.x) || !slices.Equal(window.Word(got.x), want) {
		t.Fatal(got)
	}
}

// refused holds an answer to a class.
func refused(t *testing.T, got answer, k api.Errno) {
	t.Helper()
	if got.k != k || !empty(got.x) {
		t.Fatalf("%v, not %v", got, k)
	}
}

// tidied is an answer of Tidy without its needs, which are to be some.
func tidied(t *testing.T, x api.Schedule) answer {
	t.Helper()
	z, k := Tidy(x)
	if !slices.Equal(z.Needs, x.Needs) {
		t.Fatal(x, z)
	}
	if !Plain(z) {
		t.Fatal(z)
	}
	z.Needs = nil
	return of(z, k)
}

// turned is a word turned, tick by tick, as the chapter says it.
func turned(w []int, n int) []int {
	l := make([]int, len(w))
	for t := range w {
		// By a remainder first, so that no sum is too great.
		l[t] = w[((t+n%len(w))%len(w)+len(w))%len(w)]
	}
	return l
}

// mirrored is a word from its last tick on.
func mirrored(w []int) []int {
	l := make([]int, len(w))
	for t := range w {
		l[t] = w[len(w)-1-t]
	}
	return l
}

// spun is a word, n times, or each of its ticks n times.
func spun(w []int, n int, each bool) []int {
	l := make([]int, len(w)*n)
	for t := range l {
		if each {
			l[t] = w[t/n]
		} else {
			l[t] = w[t%len(w)]
		}
	}
	return l
}

// named is a word of which one owner is another one.
func named(w []int, from, to int) []int {
	l := slices.Clone(w)
	for t, id := range w {
		if id == from {
			l[t] = to
		}
	}
	return l
}

func TestExample(t *testing.T) { // P33.1: the chapter's
	x := api.Schedule{Frame: 4, Windows: []api.Window{{Id: 1, Length: 1}}}
	z, k := Turn(x, 1)
	if k != api.OK || !same(z, api.Schedule{Frame: 4, Windows: []api.Window{{Id: 1, Offset: 3, Length: 1}}}) {
		t.Error(z, k)
	}
}

func TestByHand(t *testing.T) { // P33.1: each call, told by windows
	x := usual()
	y := api.Schedule{Id: 9, Frame: 3, Windows: []api.Window{{Id: 2, Length: 2}}, Needs: []api.Need{{Id: 2, Period: 3, Budget: 1}}}
	for i, z := range []struct {
		got     answer
		frame   int
		windows []api.Window
	}{
		{of(Turn(x, 0)), 4, []api.Window{{Id: 1, Length: 2}, {Id: 2, Offset: 3, Length: 1}}},
		{of(Turn(x, 1)), 4, []api.Window{{Id: 1, Length: 1}, {Id: 2, Offset: 2, Length: 1}, {Id: 1, Offset: 3, Length: 1}}},
		{of(Turn(x, -1)), 4, []api.Window{{Id: 2, Length: 1}, {Id: 1, Offset: 1, Length: 2}}},
		{of(Mirror(x)), 4, []api.Window{{Id: 2, Length: 1}, {Id: 1, Offset: 2, Length: 2}}},
		{of(Repeat(x, 1)), 4, []api.Window{{Id: 1, Length: 2}, {Id: 2, Offset: 3, Length: 1}}},
		{of(Repeat(y, 2)), 6, []api.Window{{Id: 2, Length: 2}, {Id: 2, Offset: 3, Length: 2}}},
		{of(Join(x, y)), 7, []api.Window{{Id: 1, Length: 2}, {Id: 2, Offset: 3, Length: 3}}},
		{of(Join(y, x)), 7, []api.Window{{Id: 2, Length: 2}, {Id: 1, Offset: 3, Length: 2}, {Id: 2, Offset: 6, Length: 1}}},
		{of(Stretch(x, 2)), 8, []api.Window{{Id: 1, Length: 4}, {Id: 2, Offset: 6, Length: 2}}},
		{of(Name(x, 2, 1)), 4, []api.Window{{Id: 1, Length: 2}, {Id: 1, Offset: 3, Length: 1}}},
		{of(Name(x, -1, 2)), 4, []api.Window{{Id: 1, Length: 2}, {Id: 2, Offset: 2, Length: 2}}},
		{of(Name(x, -1, 1)), 4, []api.Window{{Id: 1, Length: 3}, {Id: 2, Offset: 3, Length: 1}}},
		{of(Name(x, 1, -1)), 4, []api.Window{{Id: 2, Offset: 3, Length: 1}}},
		{of(Name(x, 1, 1)), 4, []api.Window{{Id: 1, Length: 2}, {Id: 2, Offset: 3, Length: 1}}},
		{of(Name(x, 300, 1)), 4, []api.Window{{Id: 1, Length: 2}, {Id: 2, Offset: 3, Length: 1}}},
	} {
		id := 3
		if i == 5 || i == 7 {
			id = 9
		}
		if z.got.k != api.OK || !same(z.got.x, api.Schedule{Id: id, Frame: z.frame, Windows: z.windows}) {
			t.Error(i, z)
		}
	}
	z, k := Tidy(x)
	if k != api.OK || !same(z, api.Schedule{Id: 3, Frame: 4, Windows: []api.Window{{Id: 1, Length: 2}, {Id: 2, Offset: 3, Length: 1}}, Needs: x.Needs}) {
		t.Error(z, k)
	}
}

func TestAny(t *testing.T) { // P33.1: each call of any plain schedules
	next := ruled(33)
	for range 2000 {
		x, y := mixed(t, next), mixed(t, next)
		w := painted(x)
		if !Plain(x) {
			t.Fatal(x)
		}
		word(t, tidied(t, x), x.Id, w)
		n := next(60) - 30
		word(t, of(Turn(x, n)), x.Id, turned(w, n))
		word(t, of(Mirror(x)), x.Id, mirrored(w))
		word(t, of(Join(x, y)), x.Id, append(slices.Clone(w), painted(y)...))
		n = 1 + next(70)
		word(t, of(Repeat(x, n)), x.Id, spun(w, n, false))
		word(t, of(Stretch(x, n)), x.Id, spun(w, n, true))
		from, to := []int{-1, 0, 1, 255, 3, 256, -2}[next(7)], []int{-1, 0, 1, 255, 3}[next(5)]
		word(t, of(Name(x, from, to)), x.Id, named(w, from, to))
	}
}

func TestOddNumbers(t *testing.T) { // P33.1: numbers of ticks, of times and of ids, at the edges and beyond
	next := ruled(3)
	for range 40 {
		x := mixed(t, next)
		w := painted(x)
		for _, n := range odd {
			word(t, of(Turn(x, n)), x.Id, turned(w, n))
			many, long := of(Repeat(x, n)), of(Stretch(x, n))
			switch {
			case n < 1 || n > (1<<20)/x.Frame:
				refused(t, many, api.ErrRange)
				refused(t, long, api.ErrRange)
			default:
				word(t, many, x.Id, spun(w, n, false))
				word(t, long, x.Id, spun(w, n, true))
			}
			word(t, of(Name(x, n, 1)), x.Id, named(w, n, 1))
			if got := of(Name(x, 1, n)); n < -1 || n > 255 {
				refused(t, got, api.ErrRange)
			} else {
				word(t, got, x.Id, named(w, 1, n))
			}
		}
	}
}

func TestTurnModulo(t *testing.T) { // P33.1: turned by any number is turned by its remainder
	x := usual()
	for _, y := range []struct{ n, by int }{{math.MaxInt, 3}, {math.MinInt, 0}, {math.MinInt + 1, 1}, {-5, 3}, {4, 0}, {-4, 0}, {7, 3}} {
		a, b := of(Turn(x, y.n)), of(Turn(x, y.by))
		if a.k != api.OK || b.k != api.OK || !same(a.x, b.x) {
			t.Error(y, a, b)
		}
	}
}

func TestThereAndBack(t *testing.T) { // P33.2
	next := ruled(332)
	for range 500 {
		x := mixed(t, next)
		want, _ := Tidy(x)
		want.Needs = nil
		n := odd[next(len(odd))]
		if n == math.MinInt {
			n++ // it has no opposite
		}
		there, k := Turn(x, n)
		back, l := Turn(there, -n)
		if k != api.OK || l != api.OK || !same(back, want) {
			t.Fatal(x, n, back)
		}
		there, k = Mirror(x)
		back, l = Mirror(there)
		if k != api.OK || l != api.OK || !same(back, want) {
			t.Fatal(x, back)
		}
		tidy, k := Tidy(x)
		if again, l := Tidy(tidy); k != api.OK || l != api.OK || !same(again, tidy) || !same(again, api.Schedule{Id: x.Id, Frame: x.Frame, Windows: want.Windows, Needs: x.Needs}) {
			t.Fatal(x, again)
		}
	}
}

// rows is a schedule of n windows of one tick, of two partitions one after the other, in a frame that they fill but for what is left.
func rows(n, left int) api.Schedule {
	x := api.Schedule{Id: 6, Frame: n + left}
	for i := range n {
		x.Windows = append(x.Windows, api.Window{Id: i % 2, Offset: i, Length: 1})
	}
	return x
}

func TestManyWindows(t *testing.T) { // P33.1: 256 windows, and one more
	x := rows(256, 0)
	word(t, tidied(t, x), 6, painted(x))
	word(t, of(Mirror(x)), 6, mirrored(painted(x)))
	word(t, of(Turn(x, 1)), 6, turned(painted(x), 1))
	word(t, of(Repeat(x, 1)), 6, painted(x))
	word(t, of(Stretch(x, 4096)), 6, spun(painted(x), 4096, true))
	refused(t, of(Repeat(x, 2)), api.ErrMany)
	refused(t, of(Join(x, rows(1, 0))), api.ErrMany)
	word(t, of(Join(rows(255, 0), rows(1, 0))), 6, append(painted(rows(255, 0)), 0)) // they go on in one another
	word(t, of(Join(rows(255, 1), rows(1, 0))), 6, append(painted(rows(255, 1)), 0))
	refused(t, of(Join(rows(256, 1), rows(1, 0))), api.ErrMany)
	refused(t, of(Join(rows(1, 1), rows(256, 0))), api.ErrMany)
	word(t, of(Join(rows(256, 0), rows(0, 1))), 6, append(painted(x), -1))
	word(t, of(Repeat(rows(128, 1), 2)), 6, spun(painted(rows(128, 1)), 2, false))
	refused(t, of(Repeat(rows(129, 1), 2)), api.ErrMany)
	// What may not be goes ahead of what is too many.
	refused(t, of(Repeat(x, 1<<20)), api.ErrRange)
	refused(t, of(Join(x, api.Schedule{Frame: 1 << 20})), api.ErrRange)
	refused(t, of(Name(gapped(), -1, 256)), api.ErrRange)
}

// gapped is a schedule of 256 windows, one tick behind each of which is nobody's; the first window has three ticks.
func gapped() api.Schedule {
	x := api.Schedule{Id: 6, Frame: 514}
	for i := range 256 {
		x.Windows = append(x.Windows, api.Window{Id: 5, Offset: 2 * i, Length: 1})
	}
	for i := range x.Windows {
		if i > 0 {
			x.Windows[i].Offset += 2
		}
	}
	x.Windows[0].Length = 3
	return x
}

func TestManyByNamesAndTurns(t *testing.T) { // P33.1: gaps that get a name, and a window that is cut
	x := gapped()
	if !Plain(x) {
		t.Fatal(x)
	}
	word(t, of(Name(x, -1, 5)), 6, slices.Repeat([]int{5}, 514))
	refused(t, of(Name(x, -1, 6)), api.ErrMany)
	word(t, of(Name(x, 5, -1)), 6, slices.Repeat([]int{-1}, 514))
	refused(t, of(Turn(x, 1)), api.ErrMany)
	refused(t, of(Turn(x, 2)), api.ErrMany)
	refused(t, of(Turn(x, -512)), api.ErrMany)
	word(t, of(Turn(x, 3)), 6, turned(painted(x), 3))
	word(t, of(Turn(x, -1)), 6, turned(painted(x), -1))
	half := api.Schedule{Id: 6, Frame: 256}
	for i := range 128 {
		half.Windows = append(half.Windows, api.Window{Id: 5, Offset: 2 * i, Length: 1})
	}
	word(t, of(Name(half, -1, 6)), 6, named(painted(half), -1, 6))
	if z, k := Name(half, -1, 6); k != api.OK || len(z.Windows) != 256 {
		t.Error(z, k)
	}
}

func TestLongFrames(t *testing.T) { // P33.1: frames of 2^20 ticks, and one more
	const most = 1 << 20
	x := api.Schedule{Id: 1, Frame: most, Windows: []api.Window{{Id: 4, Length: 3}, {Id: 5, Offset: most - 2, Length: 2}}}
	for _, y := range []struct {
		got     answer
		windows []api.Window
	}{
		{of(Tidy(x)), x.Windows},
		{of(Turn(x, 2)), []api.Window{{Id: 4, Length: 1}, {Id: 5, Offset: most - 4, Length: 2}, {Id: 4, Offset: most - 2, Length: 2}}},
		{of(Mirror(x)), []api.Window{{Id: 5, Length: 2}, {Id: 4, Offset: most - 3, Length: 3}}},
		{of(Repeat(x, 1)), x.Windows},
		{of(Stretch(x, 1)), x.Windows},
		{of(Name(x, 5, 4)), []api.Window{{Id: 4, Length: 3}, {Id: 4, Offset: most - 2, Length: 2}}},
		{of(Join(api.Schedule{Id: 1, Frame: most - 1}, rows(1, 0))), []api.Window{{Offset: most - 1, Length: 1}}},
		{of(Stretch(api.Schedule{Id: 1, Frame: 2, Windows: []api.Window{{Id: 8, Offset: 1, Length: 1}}}, most/2)), []api.Window{{Id: 8, Offset: most / 2, Length: most / 2}}},
		{of(Repeat(api.Schedule{Id: 1, Frame: 1, Windows: []api.Window{{Id: 8, Length: 1}}}, most)), []api.Window{{Id: 8, Length: most}}},
		{of(Stretch(api.Schedule{Id: 1, Frame: 3}, most/3)), nil},
	} {
		y.got.x.Needs = nil
		frame := most
		if len(y.windows) == 0 {
			frame = most - 1
		}
		if y.got.k != api.OK || !same(y.got.x, api.Schedule{Id: 1, Frame: frame, Windows: y.windows}) {
			t.Error(y)
		}
	}
	refused(t, of(Join(x, rows(1, 0))), api.ErrRange)
	refused(t, of(Join(rows(1, 0), x)), api.ErrRange)
	refused(t, of(Join(x, x)), api.ErrRange)
	refused(t, of(Repeat(x, 2)), api.ErrRange)
	refused(t, of(Stretch(x, 2)), api.ErrRange)
	refused(t, of(Stretch(api.Schedule{Id: 1, Frame: 3}, most/3+1)), api.ErrRange)
	refused(t, of(Repeat(api.Schedule{Id: 1, Frame: 3}, most/3+1)), api.ErrRange)
}

// marred are schedules that aren't plain, each by one thing.
func marred() []api.Schedule {
	var l []api.Schedule
	mar := func(f func(x *api.Schedule)) {
		x := copyOf(usual())
		f(&x)
		l = append(l, x)
	}
	for _, n := range []int{math.MinInt, -1, 256, math.MaxInt} {
		mar(func(x *api.Schedule) { x.Id = n })
		mar(func(x *api.Schedule) { x.Windows[0].Id = n })
		mar(func(x *api.Schedule) { x.Needs[1].Id = n })
	}
	for _, n := range []int{math.MinInt, -1, 0, 1<<20 + 1, 1 << 40, math.MaxInt} {
		mar(func(x *api.Schedule) { x.Frame = n })
		mar(func(x *api.Schedule) { x.Windows[1].Length = n })
		mar(func(x *api.Schedule) { x.Needs[1].Period = n })
	}
	for _, n := range []int{math.MinInt, -1, 4, math.MaxInt} {
		mar(func(x *api.Schedule) { x.Windows[2].Offset = n })
		mar(func(x *api.Schedule) { x.Needs[0].Budget = n })
		mar(func(x *api.Schedule) { x.Needs[1].Budget = n })
	}
	mar(func(x *api.Schedule) { x.Frame = 3; x.Needs = nil })
	mar(func(x *api.Schedule) { x.Windows[0].Length = 2 })
	mar(func(x *api.Schedule) { x.Windows[1].Offset = 0 })
	mar(func(x *api.Schedule) { slices.Reverse(x.Windows) })
	mar(func(x *api.Schedule) { slices.Reverse(x.Needs) })
	mar(func(x *api.Schedule) { x.Needs[1].Id = 1 })
	mar(func(x *api.Schedule) { x.Needs[1].Period = 3 })
	mar(func(x *api.Schedule) { x.Needs[1].Budget = 1 })
	mar(func(x *api.Schedule) { x.Needs[0].Period = 2 })
	mar(func(x *api.Schedule) { x.Needs[0].Budget = 3 })
	long := rows(256, 3)
	long.Windows = append(long.Windows, api.Window{Id: 9, Offset: 256, Length: 1})
	many := api.Schedule{Frame: 1}
	for id := range 33 {
		many.Needs = append(many.Needs, api.Need{Id: id, Period: 1})
	}
	return append(l, api.Schedule{}, long, many)
}

func TestNotPlain(t *testing.T) { // P33.1: ErrState is told first of all
	for _, x := range marred() {
		if Plain(x) || modelPlain(x) {
			t.Error(x)
		}
		refused(t, of(Tidy(x)), api.ErrState)
		refused(t, of(Mirror(x)), api.ErrState)
		refused(t, of(Join(x, usual())), api.ErrState)
		refused(t, of(Join(usual(), x)), api.ErrState)
		refused(t, of(Join(api.Schedule{Frame: 1 << 20}, x)), api.ErrState)
		refused(t, of(Join(x, api.Schedule{Frame: 1 << 20})), api.ErrState)
		for _, n := range odd {
			refused(t, of(Turn(x, n)), api.ErrState)
			refused(t, of(Repeat(x, n)), api.ErrState)
			refused(t, of(Stretch(x, n)), api.ErrState)
			refused(t, of(Name(x, n, 1)), api.ErrState)
			refused(t, of(Name(x, 1, n)), api.ErrState)
		}
	}
}

func TestPlain(t *testing.T) { // P33.1: what is plain, to the edges
	full := rows(256, 0)
	for id := range 32 {
		full.Needs = append(full.Needs, api.Need{Id: id * 8, Period: 256})
	}
	for _, x := range []api.Schedule{
		usual(), full, {Frame: 1}, {Id: 255, Frame: 1 << 20},
		{Frame: 2, Windows: []api.Window{{Id: 255, Length: 2}}, Needs: []api.Need{{Id: 255, Period: 1, Budget: 1}}},
		// A need whose partition has no window, and asks for nothing.
		{Frame: 2, Needs: []api.Need{{Id: 4, Period: 2}}},
	} {
		if !Plain(x) || !modelPlain(x) {
			t.Error(x)
		}
		if z, k := Tidy(x); k != api.OK || !slices.Equal(z.Needs, x.Needs) {
			t.Error(x, z, k)
		}
	}
}

// worn is a schedule one of whose numbers is another one.
func worn(x api.Schedule, next func(n int) int) api.Schedule {
	x = copyOf(x)
	numbers := []*int{&x.Id, &x.Frame}
	for i := range x.Windows {
		w := &x.Windows[i]
		numbers = append(numbers, &w.Id, &w.Offset, &w.Length)
	}
	for i := range x.Needs {
		n := &x.Needs[i]
		numbers = append(numbers, &n.Id, &n.Period, &n.Budget)
	}
	p := numbers[next(len(numbers))]
	if next(3) == 0 {
		*p = odd[next(len(odd))]
	} else {
		*p += next(5) - 2
	}
	return x
}

func TestWorn(t *testing.T) { // P33.1: Plain of schedules one of whose numbers is another one
	next := ruled(99)
	plain, other := 0, 0
	for range 3000 {
		x := worn(mixed(t, next), next)
		if Plain(x) != modelPlain(x) {
			t.Fatal(x)
		}
		if Plain(x) {
			plain++
			word(t, tidied(t, x), x.Id, painted(x))
			continue
		}
		other++
		refused(t, of(Tidy(x)), api.ErrState)
	}
	if plain < 300 || other < 300 {
		t.Error(plain, other)
	}
}

func TestNothingShared(t *testing.T) { // P33.1: arguments stay as they are, spare room too, and answers have memory of their own
	room := usual()
	room.Windows = append(room.Windows, api.Window{Id: 77})
	room.Needs = append(room.Needs, api.Need{Id: 78})
	was := copyOf(room)
	x := room
	x.Windows, x.Needs = x.Windows[:3], x.Needs[:2]
	calls := []func() (api.Schedule, api.Errno){
		func() (api.Schedule, api.Errno) { return Tidy(x) },
		func() (api.Schedule, api.Errno) { return Turn(x, 4) },
		func() (api.Schedule, api.Errno) { return Mirror(x) },
		func() (api.Schedule, api.Errno) { return Repeat(x, 1) },
		func() (api.Schedule, api.Errno) { return Join(x, x) },
		func() (api.Schedule, api.Errno) { return Stretch(x, 1) },
		func() (api.Schedule, api.Errno) { return Name(x, 2, 1) },
	}
	for i, call := range calls {
		z, k := call()
		want := copyOf(z)
		other, _ := call()
		for j := range z.Windows {
			z.Windows[j] = api.Window{Id: 99}
		}
		for j := range z.Needs {
			z.Needs[j] = api.Need{Id: 99}
		}
		_ = append(z.Needs, api.Need{Id: 99})
		if k != api.OK || !same(room, was) || !same(other, want) {
			t.Error(i, room, other)
		}
	}
	if !same(scheds.Clone([]api.Schedule{usual()})[0], x) {
		t.Error(x)
	}
}
