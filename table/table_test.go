package table

import (
	"math"
	"slices"
	"testing"

	"countwheel/api"
	"countwheel/fault"
)

// most is the greatest frame.
const most = 1 << 20

// odd are numbers such as a tick may be, or may not.
var odd = []int{math.MinInt, math.MinInt + 1, -1 << 32, -most, -2, -1, most, most + 1, 1 << 32, math.MaxInt - 1, math.MaxInt}

// example is the chapter's schedule.
var example = api.Schedule{Id: 7, Frame: 10, Windows: []api.Window{{Id: 1, Offset: 2, Length: 3}, {Id: 1, Offset: 5, Length: 1}}}

// ruled is a row of numbers that a rule makes, each of which is below what it is asked with.
func ruled(x uint64) func(n int) int {
	return func(n int) int {
		x = x*6364136223846793005 + 1442695040888963407
		return int(x>>33) % n
	}
}

// made is the table of a schedule that may be.
func made(t *testing.T, x api.Schedule, ids ...int) *Table {
	t.Helper()
	a, e := New(x, ids)
	if e != nil || a == nil {
		t.Fatal(x, ids, fault.Text(e))
	}
	return a
}

// mixed is a schedule of right windows of the partitions -1 (nobody), 1, 2 and 3, with and without ticks between.
func mixed(next func(n int) int, frame int) api.Schedule {
	x := api.Schedule{Id: next(300) - 20, Frame: frame}
	for at := next(2) * next(4); at < frame; at += next(2) * next(4) {
		w := api.Window{Id: 1 + next(3), Offset: at, Length: min(1+next(5), frame-at)}
		if next(9) == 0 {
			w.Id = -1
		}
		x.Windows = append(x.Windows, w)
		at += w.Length
	}
	return x
}

// word is whose each tick is.
func word(x api.Schedule) []int {
	l := slices.Repeat([]int{-1}, x.Frame)
	for _, w := range x.Windows {
		for i := range w.Length {
			l[w.Offset+i] = w.Id
		}
	}
	return l
}

// modelRuns are a word's runs, tick by tick.
func modelRuns(word []int) []Run {
	var l []Run
	for tick, id := range word {
		if tick == 0 || word[tick-1] != id {
			l = append(l, Run{Id: id, From: tick})
		}
		l[len(l)-1].Length++
	}
	return l
}

// modelNext is the first tick behind one of a word that is another owner's, or the word's end.
func modelNext(word []int, tick int) int {
	for n := tick + 1; n < len(word); n++ {
		if word[n] != word[tick] {
			return n
		}
	}
	return len(word)
}

// shapes are schedules whose windows are right, of many shapes, each with its word.
func shapes(do func(x api.Schedule, word []int)) {
	next := ruled(17)
	for _, x := range []api.Schedule{
		{Frame: 1},
		{Frame: 5},
		{Frame: 1, Windows: []api.Window{{Id: 3, Length: 1}}},
		{Frame: 1, Windows: []api.Window{{Id: -1, Length: 1}}},
		{Frame: 2, Windows: []api.Window{{Id: 2, Length: 1}}},
		{Frame: 2, Windows: []api.Window{{Id: 2, Offset: 1, Length: 1}}},
		{Frame: 4, Windows: []api.Window{{Id: 1, Length: 4}}},
		{Frame: 4, Windows: []api.Window{{Id: 1, Length: 2}, {Id: 1, Offset: 2, Length: 1}, {Id: 1, Offset: 3, Length: 1}}},
		{Frame: 4, Windows: []api.Window{{Id: 1, Length: 1}, {Id: 2, Offset: 1, Length: 1}, {Id: 1, Offset: 2, Length: 2}}},
		{Frame: 6, Windows: []api.Window{{Id: 1, Offset: 1, Length: 1}, {Id: -1, Offset: 2, Length: 2}, {Id: 1, Offset: 5, Length: 1}}},
		example,
	} {
		do(x, word(x))
	}
	for frame := 1; frame < 40; frame++ {
		for range 25 {
			x := mixed(next, frame)
			do(x, word(x))
		}
	}
}

// all are the ids of the partitions that shapes are of.
var all = []int{2, -1, 1, 3, 2}

func TestExample(t *testing.T) { // P17.1
	if got := made(t, example, 1).Runs(); !slices.Equal(got, []Run{{-1, 0, 2}, {1, 2, 4}, {-1, 6, 4}}) {
		t.Error(got)
	}
}

func TestNewRange(t *testing.T) { // P17.1: a frame that may not be, asked ahead of windows
	for _, frame := range []int{math.MinInt, -1 << 32, -1, 0, most + 1, 1 << 32, math.MaxInt} {
		for _, l := range [][]api.Window{nil, {{Id: 1, Length: 1}}, {{Id: 9, Length: -1}}} {
			a, e := New(api.Schedule{Frame: frame, Windows: l}, []int{1})
			if a != nil || fault.Of(e) != (api.Fault{Error: api.ErrRange}) || fault.Depth(e) != 0 {
				t.Error(frame, l, a, fault.Text(e))
			}
		}
	}
	for _, frame := range []int{1, 2, most - 1, most} {
		if a := made(t, api.Schedule{Frame: frame}); a.Frame() != frame || !slices.Equal(a.Runs(), []Run{{-1, 0, frame}}) {
			t.Error(frame, a.Frame(), a.Runs())
		}
	}
}

func TestNewWrong(t *testing.T) { // P17.1: windows that aren't right, by the first one
	for _, x := range []struct {
		l    []api.Window
		text string
	}{
		{[]api.Window{{Id: 3, Length: 1}}, "at 0: reference"},
		{[]api.Window{{Id: -1, Length: 1}}, "at 0: reference"},
		{[]api.Window{{Id: 1}}, "at 0: window"},
		{[]api.Window{{Id: 1, Offset: -1, Length: 2}}, "at 0: window"},
		{[]api.Window{{Id: 1, Offset: 8, Length: 3}}, "at 0: window"},
		{[]api.Window{{Id: 1, Offset: 8, Length: math.MaxInt}}, "at 0: window"},
		{[]api.Window{{Id: 1, Offset: 3, Length: 2}, {Id: 2, Offset: 2, Length: 1}}, "at 1: order"},
		{[]api.Window{{Id: 1, Offset: 3, Length: 2}, {Id: 2, Offset: 4, Length: 1}}, "at 1: overlap"},
		{[]api.Window{{Id: 1, Length: 2}, {Id: 2, Offset: 2, Length: 1}, {Id: 2, Offset: 2, Length: 1}}, "at 2: overlap"},
		{[]api.Window{{Id: 1, Length: 2}, {Id: 2, Offset: 2, Length: 1}, {Id: 0, Offset: 2, Length: 1}}, "at 2: reference"},
	} {
		a, e := New(api.Schedule{Frame: 10, Windows: x.l}, []int{2, 1})
		if a != nil || fault.Text(e) != x.text {
			t.Error(x.l, a, fault.Text(e), "not", x.text)
		}
	}
}

func TestNewAny(t *testing.T) { // P17.1: of any Id, by any ids, whatever its needs
	for _, id := range append([]int{0, 1, 255, 256}, odd...) {
		x := api.Schedule{Id: id, Frame: 3, Windows: []api.Window{{Id: id, Offset: 1, Length: 1}}, Needs: []api.Need{{Id: 77, Period: -1, Budget: 9}}}
		a := made(t, x, 5, id, id)
		if a.Id() != id || a.Frame() != 3 || a.Owner(1) != id || a.Owner(0) != -1 || a.Owner(2) != -1 {
			t.Error(id, a.Id(), a.Runs())
		}
	}
}

func TestRuns(t *testing.T) { // P17.1: as long as can be, nobody's ticks too, also those of a window of -1
	shapes(func(x api.Schedule, word []int) {
		a := made(t, x, all...)
		if a.Id() != x.Id || a.Frame() != x.Frame {
			t.Fatal(x, a.Id(), a.Frame())
		}
		for range 2 { // to ask changes nothing
			if got, want := a.Runs(), modelRuns(word); !slices.Equal(got, want) {
				t.Fatal(x, got, want)
			}
		}
	})
}

func TestOwner(t *testing.T) { // P17.1
	shapes(func(x api.Schedule, word []int) {
		a := made(t, x, all...)
		for tick, id := range word {
			if got := a.Owner(tick); got != id {
				t.Fatal(x, tick, got, id)
			}
		}
		for _, tick := range append([]int{x.Frame, x.Frame + 1, -x.Frame}, odd...) {
			if got := a.Owner(tick); got != -1 {
				t.Fatal(x, tick, got)
			}
		}
	})
}

func TestNext(t *testing.T) { // P17.1
	shapes(func(x api.Schedule, word []int) {
		a := made(t, x, all...)
		for tick := range word {
			if got, want := a.Next(tick), modelNext(word, tick); got != want {
				t.Fatal(x, tick, got, want)
			}
		}
		for _, tick := range append([]int{x.Frame, x.Frame + 1, -x.Frame}, odd...) {
			if got := a.Next(tick); got != 0 {
				t.Fatal(x, tick, got)
			}
		}
	})
}

func TestNothingIsShared(t *testing.T) { // P17.1: neither with what was handed in, nor between answers
	room := []api.Window{{Id: 1, Offset: 2, Length: 3}, {Id: 1, Offset: 5, Length: 1}, {Id: 8, Offset: 8, Length: 8}}
	ids := []int{2, 1, 9}
	given, givenIds := slices.Clone(room), slices.Clone(ids)
	a := made(t, api.Schedule{Id: 7, Frame: 10, Windows: room[:2]}, ids[:2]...)
	if !slices.Equal(room, given) || !slices.Equal(ids, givenIds) {
		t.Error(room, ids)
	}
	clear(room)
	clear(ids)
	want := []Run{{-1, 0, 2}, {1, 2, 4}, {-1, 6, 4}}
	l := a.Runs()
	if !slices.Equal(l, want) {
		t.Error(l)
	}
	clear(l)
	if got := append(a.Runs(), Run{5, 5, 5}); !slices.Equal(got[:3], want) || !slices.Equal(a.Runs(), want) || a.Owner(3) != 1 {
		t.Error(got, a.Runs())
	}
}

// stands holds a cursor against a word and the tick at which it is to stand.
func stands(t *testing.T, c *Cursor, word []int, tick int) {
	t.Helper()
	for range 2 { // to ask changes nothing
		if c.Tick() != tick || c.Owner() != word[tick] || c.Left() != len(word)-tick {
			t.Fatal(word, tick, c.Tick(), c.Owner(), c.Left())
		}
	}
}

func TestStep(t *testing.T) { // P17.1, P17.2: by frame behind frame just the schedule's owners
	shapes(func(x api.Schedule, word []int) {
		a := made(t, x, all...)
		c := a.Cursor()
		for range 4 {
			for tick := range word {
				stands(t, c, word, tick)
				if went := c.Step(); went != (tick < x.Frame-1) {
					t.Fatal(x, tick, went)
				}
			}
		}
		stands(t, c, word, 0)
		if c.Table() != a {
			t.Fatal(x)
		}
	})
}

func TestRun(t *testing.T) { // P17.1, P17.2: as so many steps, from each tick
	shapes(func(x api.Schedule, word []int) {
		a := made(t, x, all...)
		for from := range word {
			for _, n := range []int{0, 1, 2, 3, x.Frame - from - 1, x.Frame - from, x.Frame - from + 1, x.Frame - 1, x.Frame, x.Frame + 1, 3*x.Frame + 2} {
				c, d := a.Cursor(), a.Cursor()
				for range from {
					c.Step()
					d.Step()
				}
				frames := 0
				for range n {
					if !d.Step() {
						frames++
					}
				}
				if got := c.Run(n); got != frames {
					t.Fatal(x, from, n, got, frames)
				}
				stands(t, c, word, d.Tick())
				// Where it goes on from there hangs on the run that it is in.
				for range x.Frame {
					if c.Step() != d.Step() {
						t.Fatal(x, from, n, c.Tick(), d.Tick())
					}
					stands(t, c, word, d.Tick())
				}
			}
		}
	})
}

func TestRunFar(t *testing.T) { // P17.1: however many steps; below 0 none
	shapes(func(x api.Schedule, word []int) {
		c := made(t, x, all...).Cursor()
		tick := 0
		for _, n := range []int{math.MaxInt, -1, 1 << 62, math.MinInt, math.MaxInt - 1, 0, 1<<32 + 1, -x.Frame, math.MaxInt} {
			frames := 0
			if n > 0 {
				// As it is reckoned by hand: a sum of 64 bits without a sign is great enough.
				sum := uint64(tick) + uint64(n)
				frames, tick = int(sum/uint64(x.Frame)), int(sum%uint64(x.Frame))
			}
			if got := c.Run(n); got != frames {
				t.Fatal(x, n, got, frames)
			}
			stands(t, c, word, tick)
		}
	})
}

func TestCursors(t *testing.T) { // P17.1: each goes for itself
	shapes(func(x api.Schedule, word []int) {
		a := made(t, x, all...)
		c := a.Cursor()
		for tick := range word {
			d := c.Copy()
			first := a.Cursor()
			if d == c || d.Table() != a || first.Table() != a {
				t.Fatal(x, tick)
			}
			stands(t, d, word, tick)
			stands(t, first, word, 0)
			d.Run(x.Frame/2 + 1)
			stands(t, c, word, tick)
			at := d.Tick()
			c.Step()
			stands(t, d, word, at)
			stands(t, first, word, 0)
			stands(t, c, word, (tick+1)%x.Frame)
		}
		if got := a.Runs(); !slices.Equal(got, modelRuns(word)) {
			t.Fatal(x, got)
		}
	})
}

func TestMost(t *testing.T) { // P17.1, P17.2: the greatest frame, of as many windows as it has ticks
	x := api.Schedule{Id: 255, Frame: most}
	for i := range most {
		x.Windows = append(x.Windows, api.Window{Id: i & 1, Offset: i, Length: 1})
	}
	a := made(t, x, 0, 1)
	if l := a.Runs(); len(l) != most || l[most-1] != (Run{1, most - 1, 1}) {
		t.Fatal(len(l))
	}
	c := a.Cursor()
	for i := range most {
		if c.Tick() != i || c.Owner() != i&1 || a.Owner(i) != i&1 || a.Next(i) != i+1 {
			t.Fatal(i, c.Tick(), c.Owner(), a.Owner(i), a.Next(i))
		}
		if c.Step() != (i < most-1) {
			t.Fatal(i)
		}
	}
	if c.Run(most+5) != 1 || c.Tick() != 5 || c.Owner() != 1 {
		t.Error(c.Tick(), c.Owner())
	}
}
