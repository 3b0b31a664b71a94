package need

import (
	"math"
	"slices"
	"testing"

	"countwheel/api"
	"countwheel/fault"
)

// most is the greatest number of ticks.
const most = 1 << 20

// odd are numbers such as one of ticks may be, or may not.
var odd = []int{math.MinInt, math.MinInt + 1, -1 << 40, -10, -5, -1, 0, 1, 2, 5, 10, 11, 1 << 40, 1 << 62, math.MaxInt - 1, math.MaxInt}

// of is a fault at a need.
func of(k api.Errno, at int) api.Fault { return api.Fault{Error: k, At: at} }

// ruled is a row of numbers that a rule makes, each of which is below what it is asked with.
func ruled(x uint64) func(n int) int {
	return func(n int) int {
		x = x*6364136223846793005 + 1442695040888963407
		return int(x>>33) % n
	}
}

// copyOf is a schedule made anew.
func copyOf(x api.Schedule) api.Schedule {
	x.Windows = append([]api.Window(nil), x.Windows...)
	x.Needs = append([]api.Need(nil), x.Needs...)
	return x
}

// same tells whether two schedules are one.
func same(a, b api.Schedule) bool {
	return a.Id == b.Id && a.Frame == b.Frame && slices.Equal(a.Windows, b.Windows) && slices.Equal(a.Needs, b.Needs)
}

// owner is whose a tick is, told another way: by the first window that has it.
func owner(x api.Schedule, tick int) int {
	for _, w := range x.Windows {
		if w.Offset <= tick && tick < w.Offset+w.Length {
			return w.Id
		}
	}
	return -1
}

// supply is how many ticks that there are, of some, are a partition's.
func supply(x api.Schedule, id, from, to int) int {
	n := 0
	for t := max(from, 0); t < to && t < x.Frame; t++ {
		if owner(x, t) == id {
			n++
		}
	}
	return n
}

// modelLeast is what a partition has at least in a period; false: periods don't fill the frame.
func modelLeast(x api.Schedule, id, period int) (int, bool) {
	if period < 1 {
		return 0, false
	}
	n, from := most, 0
	for from < x.Frame {
		n = min(n, supply(x, id, from, from+period))
		from += period
	}
	return n, from == x.Frame
}

// modelBlackout goes two frames far.
func modelBlackout(x api.Schedule, id int) int {
	longest, row := 0, 0
	for t := range 2 * x.Frame {
		row++
		if owner(x, t%x.Frame) == id {
			row = 0
		}
		longest = max(longest, row)
	}
	return min(longest, x.Frame)
}

// modelShare tries all numbers that may divide both.
func modelShare(x api.Schedule, id int) (int, int) {
	ticks := supply(x, id, 0, x.Frame)
	for d := x.Frame; ; d-- {
		if ticks%d == 0 && x.Frame%d == 0 {
			return ticks / d, x.Frame / d
		}
	}
}

// modelCheck tells what is wrong with needs.
func modelCheck(x api.Schedule, ids []int) api.Fault {
	for i, n := range x.Needs {
		known := false
		for _, id := range ids {
			known = known || id == n.Id
		}
		have, cut := modelLeast(x, n.Id, n.Period)
		switch {
		case !known:
			return of(api.ErrRef, i)
		case i > 0 && x.Needs[i-1].Id >= n.Id:
			return of(api.ErrOrder, i)
		case !cut:
			return of(api.ErrPeriod, i)
		case n.Budget < 0 || n.Budget > n.Period || have < n.Budget:
			return of(api.ErrBudget, i)
		}
	}
	return api.Fault{}
}

// windows are n of a frame of so many ticks, in any order, one over the other.
func windows(next func(n int) int, n, frame int) []api.Window {
	var l []api.Window
	for range n {
		l = append(l, api.Window{Id: next(4), Offset: next(frame + 3), Length: next(7)})
	}
	return l
}

// some is a schedule of 12 ticks: 1 has 0, 1 and 6, 2 has 4 and 5.
func some() api.Schedule {
	return api.Schedule{Id: 7, Frame: 12, Windows: []api.Window{{Id: 1, Length: 2}, {Id: 2, Offset: 4, Length: 2}, {Id: 1, Offset: 6, Length: 1}}}
}

// full is a schedule all of whose ticks are the partition 4's.
func full(frame int) api.Schedule {
	return api.Schedule{Frame: frame, Windows: []api.Window{{Id: 4, Length: frame}}}
}

func TestExample(t *testing.T) { // P14.1
	x := api.Schedule{Frame: 10, Windows: []api.Window{{Id: 1, Length: 4}}}
	if n, e := Least(x, 1, 5); n != 0 || e != api.OK {
		t.Error(n, e)
	}
	if n := Blackout(x, 1); n != 6 {
		t.Error(n)
	}
}

func TestCheckRight(t *testing.T) { // P14.1: needs that are right, to the edges
	x := some()
	for _, l := range [][]api.Need{
		nil,
		{},
		{{Id: 1, Period: 12, Budget: 3}},
		{{Id: 1, Period: 6, Budget: 1}},
		{{Id: 1, Period: 1}},
		{{Id: 0, Period: 12}, {Id: 1, Period: 6, Budget: 1}, {Id: 2, Period: 12, Budget: 2}, {Id: 255, Period: 4}},
	} {
		x.Needs = l
		if e := Check(x, []int{255, 2, 1, 0, 2}); e != nil {
			t.Error(l, fault.Text(e))
		}
	}
	for _, period := range []int{1, 2, 3, 4, 6, 12} {
		y := full(12)
		y.Needs = []api.Need{{Id: 4, Period: period, Budget: period}}
		if e := Check(y, []int{4}); e != nil {
			t.Error(period, fault.Text(e))
		}
	}
}

func TestCheckWrong(t *testing.T) { // P14.1: each error, by the first need, and by the first error of it
	ok := api.Need{Id: 1, Period: 12, Budget: 3}
	for _, y := range []struct {
		needs []api.Need
		want  api.Fault
	}{
		{[]api.Need{{Id: 3, Period: 12}}, of(api.ErrRef, 0)},
		{[]api.Need{{Id: 3, Period: 5, Budget: 9}}, of(api.ErrRef, 0)},
		{[]api.Need{ok, {Id: 0}}, of(api.ErrRef, 1)},
		{[]api.Need{ok, ok}, of(api.ErrOrder, 1)},
		{[]api.Need{{Id: 2, Period: 12}, {Id: 1, Period: 5, Budget: 9}}, of(api.ErrOrder, 1)},
		{[]api.Need{{Id: 1, Period: 12}, {Id: 4, Period: 12}, {Id: 2, Period: 12}}, of(api.ErrOrder, 2)},
		{[]api.Need{{Id: 1}}, of(api.ErrPeriod, 0)},
		{[]api.Need{{Id: 1, Period: 5, Budget: 9}}, of(api.ErrPeriod, 0)},
		{[]api.Need{{Id: 1, Period: 24}}, of(api.ErrPeriod, 0)},
		{[]api.Need{{Id: 1, Period: 13}}, of(api.ErrPeriod, 0)},
		{[]api.Need{{Id: 1, Period: most}}, of(api.ErrPeriod, 0)},
		{[]api.Need{ok, {Id: 2, Period: 0, Budget: -1}}, of(api.ErrPeriod, 1)},
		{[]api.Need{ok, {Id: 2, Period: -1}}, of(api.ErrPeriod, 1)},
		{[]api.Need{ok, {Id: 2, Period: -12}}, of(api.ErrPeriod, 1)},
		{[]api.Need{{Id: 1, Period: 12, Budget: 4}}, of(api.ErrBudget, 0)},
		{[]api.Need{{Id: 1, Period: 6, Budget: 2}}, of(api.ErrBudget, 0)},
		{[]api.Need{{Id: 1, Period: 4, Budget: 1}}, of(api.ErrBudget, 0)},
		{[]api.Need{{Id: 1, Period: 12, Budget: -1}}, of(api.ErrBudget, 0)},
		{[]api.Need{{Id: 1, Period: 12, Budget: 13}}, of(api.ErrBudget, 0)},
		{[]api.Need{ok, {Id: 2, Period: 6, Budget: 1}, {Id: 0}}, of(api.ErrBudget, 1)},
		{[]api.Need{ok, {Id: 4, Period: 12, Budget: 1}}, of(api.ErrBudget, 1)},
	} {
		x := some()
		x.Needs = y.needs
		if e := Check(x, []int{4, 2, 1}); fault.Of(e) != y.want || fault.Depth(e) != 1 {
			t.Errorf("%v: %s, not %v", y.needs, fault.Text(e), y.want)
		}
	}
	x := some()
	x.Needs = []api.Need{{Id: 1, Period: 12}, {Id: 2, Period: 6, Budget: 1}}
	if s := fault.Text(Check(x, []int{1, 2})); s != "at 1: budget" {
		t.Error(s)
	}
	for _, ids := range [][]int{nil, {}, {0, 2, -1}} {
		if e := Check(x, ids); fault.Of(e) != of(api.ErrRef, 0) {
			t.Error(ids, fault.Text(e))
		}
	}
}

func TestCheckAgainstTheModel(t *testing.T) { // P14.1
	next := ruled(17)
	seen := map[api.Fault]int{}
	periods := []int{1, 2, 3, 4, 6, 8, 12, 24}
	for range 40000 {
		x := api.Schedule{Frame: 24 / (1 + next(2)), Windows: windows(next, next(7), 24)}
		for id := next(2) - next(12)/11; len(x.Needs) < 4; id += 1 + next(2) - next(16)/15 {
			n := api.Need{Id: max(id, 0), Period: periods[next(len(periods))]}
			n.Budget = next(n.Period+1) / (1 + next(4))
			switch next(30) {
			case 0:
				n.Period = next(30)
			case 1:
				n.Budget = next(12)
			}
			x.Needs = append(x.Needs, n)
		}
		ids := []int{5, 3, 0, 1, 2, 4, 6}[:4+next(4)]
		given, gave := copyOf(x), slices.Clone(ids)
		want := modelCheck(x, ids)
		seen[want]++
		if e := Check(x, ids); fault.Of(e) != want || (e == nil) != (want == api.Fault{}) {
			t.Fatalf("%v %v: %s, not %v", x, ids, fault.Text(e), want)
		}
		if !same(x, given) || !slices.Equal(ids, gave) {
			t.Fatal(x, ids)
		}
	}
	for _, k := range []api.Errno{api.ErrRef, api.ErrOrder, api.ErrPeriod, api.ErrBudget} {
		if seen[of(k, 1)] < 100 {
			t.Error(k, seen)
		}
	}
	if seen[api.Fault{}] < 500 {
		t.Error(seen)
	}
}

func TestSupply(t *testing.T) { // P14.1: of all parts of a frame, and of ticks that there aren't
	x := some()
	for id := -2; id < 4; id++ {
		for from := -3; from < 16; from++ {
			for to := -3; to < 16; to++ {
				if got, want := Supply(x, id, from, to), supply(x, id, from, to); got != want {
					t.Error(id, from, to, got, want)
				}
			}
		}
		all := supply(x, id, 0, 12)
		for _, y := range []struct{ from, to, want int }{
			{math.MinInt, math.MaxInt, all},
			{math.MinInt, 12, all},
			{0, math.MaxInt, all},
			{math.MaxInt, math.MinInt, 0},
			{12, 0, 0},
			{math.MinInt, -1, 0},
			{12, math.MaxInt, 0},
			{6, math.MaxInt, supply(x, id, 6, 12)},
			{math.MinInt, 5, supply(x, id, 0, 5)},
		} {
			if got := Supply(x, id, y.from, y.to); got != y.want {
				t.Error(id, y, got)
			}
		}
	}
	if Supply(x, 1, 1, 7) != 2 || Supply(x, 1, 1, 6) != 1 || Supply(x, -1, 0, 12) != 7 {
		t.Error("by hand")
	}
}

func TestLeast(t *testing.T) { // P14.1: by each period that may be, and others
	x := some()
	for _, y := range []struct{ id, period, want int }{
		{1, 12, 3}, {1, 6, 1}, {1, 4, 0}, {1, 1, 0},
		{2, 12, 2}, {2, 6, 0},
		{-1, 12, 7}, {-1, 6, 2}, {-1, 4, 1}, {-1, 3, 1}, {-1, 2, 0},
		{9, 12, 0}, {9, 1, 0},
	} {
		if n, e := Least(x, y.id, y.period); n != y.want || e != api.OK {
			t.Error(y, n, e)
		}
	}
	for _, period := range []int{math.MinInt, -12, -6, -1, 0, 5, 7, 8, 9, 10, 11, 13, 24, most, math.MaxInt} {
		if n, e := Least(x, 1, period); n != 0 || e != api.ErrPeriod {
			t.Error(period, n, e)
		}
	}
	for _, period := range []int{1, 2, 3, 4, 6, 12} {
		if n, e := Least(full(12), 4, period); n != period || e != api.OK {
			t.Error(period, n, e)
		}
		if n, e := Least(full(12), -1, period); n != 0 || e != api.OK {
			t.Error(period, n, e)
		}
	}
}

func TestBlackout(t *testing.T) { // P14.1: also from one frame into the next one
	for _, y := range []struct {
		x        api.Schedule
		id, want int
	}{
		{some(), 1, 5},
		{some(), 2, 10},
		{some(), -1, 3},
		{some(), 9, 12},
		{full(12), 4, 0},
		{full(12), -1, 12},
		{full(1), 4, 0},
		{full(1), 3, 1},
		{api.Schedule{Frame: 1}, -1, 0},
		{api.Schedule{Frame: 9}, -1, 0},
		{api.Schedule{Frame: 9}, 0, 9},
		{api.Schedule{Frame: 9, Windows: []api.Window{{Id: 1, Offset: 4, Length: 1}}}, 1, 8},
		{api.Schedule{Frame: 9, Windows: []api.Window{{Id: 1, Offset: 0, Length: 1}}}, 1, 8},
		{api.Schedule{Frame: 9, Windows: []api.Window{{Id: 1, Offset: 8, Length: 1}}}, 1, 8},
		{api.Schedule{Frame: 9, Windows: []api.Window{{Id: 1, Offset: 2, Length: 5}}}, 1, 4},
		{api.Schedule{Frame: 9, Windows: []api.Window{{Id: 1, Offset: 0, Length: 2}, {Id: 1, Offset: 7, Length: 2}}}, 1, 5},
	} {
		if got := Blackout(y.x, y.id); got != y.want {
			t.Error(y, got)
		}
	}
}

func TestShare(t *testing.T) { // P14.1: by the greatest number that divides both
	for _, y := range []struct {
		x         api.Schedule
		id, of, n int
	}{
		{some(), 1, 1, 4},
		{some(), 2, 1, 6},
		{some(), -1, 7, 12},
		{some(), 9, 0, 1},
		{full(12), 4, 1, 1},
		{full(12), -1, 0, 1},
		{full(most), 4, 1, 1},
		{api.Schedule{Frame: most, Windows: []api.Window{{Id: 4, Length: most - 1}}}, 4, most - 1, most},
		{api.Schedule{Frame: 720720, Windows: []api.Window{{Id: 4, Length: 30030}, {Id: 4, Offset: 100000, Length: 30030}}}, 4, 1, 12},
	} {
		if a, b := Share(y.x, y.id); a != y.of || b != y.n {
			t.Error(y, a, b)
		}
	}
}

func TestSlack(t *testing.T) { // P14.1: of each need, whatever is wrong with it
	x := some()
	for _, l := range [][]api.Need{nil, {}} {
		x.Needs = l
		if got := Slack(x); len(got) != 0 {
			t.Error(got)
		}
	}
	x.Needs = []api.Need{
		{Id: 1, Period: 12, Budget: 3}, {Id: 1, Period: 12, Budget: 1}, {Id: 1, Period: 12, Budget: 5},
		{Id: 1, Period: 6}, {Id: 9, Period: 4, Budget: 2}, {Id: 2, Period: 6, Budget: 20},
		{Id: 1, Period: 5, Budget: 3}, {Id: 1, Period: 0, Budget: 3}, {Id: 1, Period: 24, Budget: 3}, {Id: 1, Period: -6, Budget: 3},
		{Id: 2, Period: 12},
	}
	if got := Slack(x); !slices.Equal(got, []int{0, 2, -2, 1, -2, -20, 0, 0, 0, 0, 2}) {
		t.Error(got)
	}
}

func TestAgainstTheModel(t *testing.T) { // P14.1: windows in any order, one over the other
	next := ruled(19)
	for range 6000 {
		x := api.Schedule{Frame: 1 + next(30), Windows: windows(next, next(8), 30)}
		for range next(5) {
			x.Needs = append(x.Needs, api.Need{Id: next(4), Period: next(12), Budget: next(9)})
		}
		given := copyOf(x)
		for id := -1; id < 5; id++ {
			period := next(x.Frame + 2)
			n, ok := modelLeast(x, id, period)
			if got, e := Least(x, id, period); ok && (got != n || e != api.OK) || !ok && (got != 0 || e != api.ErrPeriod) {
				t.Fatal(x, id, period, got, e)
			}
			if got := Blackout(x, id); got != modelBlackout(x, id) {
				t.Fatal(x, id, got)
			}
			wantA, wantB := modelShare(x, id)
			if a, b := Share(x, id); a != wantA || b != wantB {
				t.Fatal(x, id, a, b)
			}
			from, to := next(40)-5, next(40)-5
			if got := Supply(x, id, from, to); got != supply(x, id, from, to) {
				t.Fatal(x, id, from, to, got)
			}
		}
		slack := Slack(x)
		for i, n := range x.Needs {
			want, ok := modelLeast(x, n.Id, n.Period)
			if want -= n.Budget; !ok {
				want = 0
			}
			if len(slack) != len(x.Needs) || slack[i] != want {
				t.Fatal(x, slack)
			}
		}
		if !same(x, given) {
			t.Fatal(x, given)
		}
	}
}

func TestTheGreatest(t *testing.T) { // P14.1: a frame of 2^20, 256 windows, 32 needs
	x := api.Schedule{Frame: most}
	for i := range 256 {
		x.Windows = append(x.Windows, api.Window{Id: i % 32, Offset: i * 4096, Length: 4096 - i})
	}
	var ids []int
	for id := range 32 {
		ids = append(ids, id)
		// The least is that of the last period, as windows are the shorter the later they are.
		x.Needs = append(x.Needs, api.Need{Id: id, Period: most / 8, Budget: 4096 - 224 - id})
	}
	if e := Check(x, ids); e != nil {
		t.Error(fault.Text(e))
	}
	for i, n := range Slack(x) {
		if n != 0 {
			t.Error(i, n)
		}
	}
	x.Needs[31].Budget++
	if e := Check(x, ids); fault.Of(e) != of(api.ErrBudget, 31) {
		t.Error(fault.Text(e))
	}
	if n := Blackout(x, 31); n != 31*4096+255 { // round the end, as the last window is the shortest
		t.Error(n)
	}
	if n := Supply(x, 31, most-4096, most); n != 4096-255 {
		t.Error(n)
	}
	if n, e := Least(x, 31, 1); n != 0 || e != api.OK {
		t.Error(n, e)
	}
}

func TestNothingIsKept(t *testing.T) { // P14.1: what is changed behind a call is not seen, and what was told is the caller's
	x := some()
	x.Needs = append(make([]api.Need, 0, 5), api.Need{Id: 1, Period: 12, Budget: 3})
	l := Slack(x)
	l[0] = 9
	_ = append(l, 9)
	if x.Needs[:2][1] != (api.Need{}) || Slack(x)[0] != 0 {
		t.Error(x)
	}
	x.Windows[2].Length = 2
	if Slack(x)[0] != 1 || Blackout(x, 1) != 4 || Supply(x, 1, 0, 12) != 4 {
		t.Error("an earlier schedule is told")
	}
}

func TestOthersEnd(t *testing.T) { // P14.1: of others they tell something
	for _, frame := range odd {
		for _, a := range odd {
			for _, b := range odd {
				x := api.Schedule{Frame: frame, Windows: []api.Window{{Id: 1, Offset: a, Length: b}, {Id: 2, Offset: b, Length: a}}}
				x.Needs = []api.Need{{Id: -1, Period: a, Budget: b}, {Id: 1, Period: b, Budget: a}, {Id: 2, Period: a, Budget: a}}
				Check(x, []int{2, 1, -1})
				Supply(x, 1, a, b)
				Least(x, 1, a)
				Blackout(x, 1)
				Share(x, 1)
				Slack(x)
			}
		}
	}
}
