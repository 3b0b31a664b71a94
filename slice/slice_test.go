package slice

import (
	"math"
	"slices"
	"testing"

	"countwheel/api"
	"countwheel/check"
	"countwheel/fault"
	"countwheel/kernel"
	"countwheel/part"
	"countwheel/window"
)

// end is the greatest time.
const end = math.MaxUint64

// odd are numbers that no kind, partition, schedule, mode or cell has.
var odd = []int{math.MinInt, -1 << 33, -256, -2, 256, 257, 1 << 31, 1 << 32, 1<<32 + 1, 1 << 62, math.MaxInt}

// ruled is a row of numbers that a rule makes, each of which is below what it is asked with.
func ruled(x uint64) func(n int) int {
	return func(n int) int {
		x = x*6364136223846793005 + 1442695040888963407
		return int(x>>33) % n
	}
}

// usual is a module of three schedules: the partition 3 may, 5 may not, 9 has no windows; in 1 the ticks are 3 3 5 -, in 2 they are 5 3, in 4 just -.
func usual() api.Module {
	return api.Module{
		Epoch: 100,
		First: 1,
		Parts: []api.Partition{
			{Id: 3, Name: "A", May: true, Cells: []api.Cell{{Value: 7}}},
			{Id: 5, Name: "B", Cells: []api.Cell{{Value: 1}, {Value: 2}}},
			{Id: 9, Name: "C"},
		},
		Schedules: []api.Schedule{
			{Id: 1, Frame: 4, Windows: []api.Window{{Id: 3, Length: 2}, {Id: 5, Offset: 2, Length: 1}}},
			{Id: 2, Frame: 2, Windows: []api.Window{{Id: 5, Length: 1}, {Id: 3, Offset: 1, Length: 1}}},
			{Id: 4, Frame: 1},
		},
		Pairs: []api.Pair{{From: 1, To: 2}, {From: 1, To: 4}, {From: 2, To: 1}},
		Acts:  []api.Act{{Schedule: 1, Partition: 3, Action: 2}, {Schedule: 2, Partition: 3, Action: 1}, {Schedule: 2, Partition: 5, Action: 2}},
	}
}

// mixed is a valid module.
func mixed(t *testing.T, next func(n int) int) api.Module {
	t.Helper()
	m := api.Module{Epoch: uint64(next(1000))}
	if next(3) == 0 {
		m.Epoch = end - uint64(next(60))
	}
	id := next(3)
	for i := range 1 + next(4) {
		p := api.Partition{Id: id, Name: string(rune('A' + i)), May: next(2) > 0}
		for range next(3) {
			p.Cells = append(p.Cells, api.Cell{Value: uint32(next(9)), Kept: next(2) > 0})
		}
		m.Parts = append(m.Parts, p)
		id += 1 + next(5)
	}
	id = next(3)
	for range 1 + next(4) {
		x := api.Schedule{Id: id, Frame: 1 + next(9)}
		for at := next(3); at < x.Frame; at += next(2) * next(3) {
			w := api.Window{Id: m.Parts[next(len(m.Parts))].Id, Offset: at, Length: min(1+next(4), x.Frame-at)}
			x.Windows = append(x.Windows, w)
			at += w.Length
		}
		m.Schedules = append(m.Schedules, x)
		id += 1 + next(3)
	}
	m.First = m.Schedules[next(len(m.Schedules))].Id
	for _, a := range m.Schedules {
		for _, b := range m.Schedules {
			if a.Id != b.Id && next(3) > 0 {
				m.Pairs = append(m.Pairs, api.Pair{From: a.Id, To: b.Id})
			}
		}
		for _, p := range m.Parts {
			if next(2) > 0 {
				m.Acts = append(m.Acts, api.Act{Schedule: a.Id, Partition: p.Id, Action: 1 + next(2)})
			}
		}
	}
	if e := check.Module(m); e != nil {
		t.Fatal(m, e)
	}
	return m
}

// call is any step but a Tick, most of them of what there may be.
func call(next func(n int) int) api.Step {
	x := api.Step{Kind: 1 + next(5), Arg: next(4), Value: uint32(next(1000))}
	if next(3) == 0 {
		x.Kind = api.SetSched
	}
	switch {
	case x.Kind == api.SetSched:
		x.Arg = next(9)
	case x.Kind == api.SetMode && x.Arg == api.Idle && next(4) > 0:
		x.Arg = api.Normal // seldom to Idle, from which there is no way
	}
	if next(20) == 0 {
		x.Arg = odd[next(len(odd))]
	}
	if next(15) == 0 {
		x.Kind = append(odd, -1, 6, 7)[next(len(odd)+3)]
	}
	return x
}

// steps are up to n.
func steps(next func(n int) int, n int) []api.Step {
	var l []api.Step
	for range next(n + 1) {
		if next(2) == 0 {
			l = append(l, api.Step{})
		} else {
			l = append(l, call(next))
		}
	}
	return l
}

// whose are ids to ask of: a module's, nobody's, and others.
func whose(m api.Module, next func(n int) int) []int {
	return append(check.Parts(m), -1, 77, odd[next(len(odd))])
}

// made is a kernel of a valid module.
func made(t *testing.T, m api.Module) *kernel.Kernel {
	t.Helper()
	k, e := kernel.New(m)
	if k == nil || e != nil {
		t.Fatal(m, e)
	}
	return k
}

// owners are whose the tick is ahead of each step, each told by a kernel that did just what is ahead of it.
func owners(t *testing.T, m api.Module, l []api.Step) []int {
	t.Helper()
	var ids []int
	for i := range l {
		k := made(t, m)
		k.Run(l[:i])
		ids = append(ids, k.Owner())
	}
	return ids
}

// model is a view, for each step of which a kernel did just what is ahead of it.
func model(t *testing.T, m api.Module, l []api.Step, p int) View {
	t.Helper()
	var v View
	by := owners(t, m, l)
	for i, x := range l {
		k := made(t, m)
		k.Run(l[:i])
		current, now := k.Status().Current, k.Now()
		out := k.Do(x)
		if k.Now() > now {
			v.Owners = append(v.Owners, by[i])
			v.Schedules = append(v.Schedules, current)
		}
		if x.Kind != 0 && by[i] != p {
			v.Outs = append(v.Outs, out)
		}
	}
	k := made(t, m)
	k.Run(l)
	for _, s := range k.Shots() {
		if s.Id != p {
			v.Shots = append(v.Shots, s)
		}
	}
	return v
}

// one tells whether views are one, field by field.
func one(a, b View) bool {
	if len(a.Shots) != len(b.Shots) {
		return false
	}
	for i, s := range a.Shots {
		if !part.SameShot(s, b.Shots[i]) {
			return false
		}
	}
	return slices.Equal(a.Owners, b.Owners) && slices.Equal(a.Schedules, b.Schedules) && slices.Equal(a.Outs, b.Outs)
}

// of is a view, asked for twice.
func of(t *testing.T, m api.Module, l []api.Step, p int) View {
	t.Helper()
	v, e := Of(m, l, p)
	w, f := Of(m, l, p)
	if e != nil || f != nil || !one(v, w) {
		t.Fatal(m, l, p, v, e, w, f)
	}
	return v
}

// stripped are steps, asked for twice.
func stripped(t *testing.T, m api.Module, l []api.Step, p int) []api.Step {
	t.Helper()
	a, e := Strip(m, l, p)
	b, f := Strip(m, l, p)
	if e != nil || f != nil || !slices.Equal(a, b) {
		t.Fatal(m, l, p, a, e, b, f)
	}
	return a
}

// agree tells whether runs do, asked both ways round.
func agree(t *testing.T, m api.Module, a, b []api.Step, p int) bool {
	t.Helper()
	x, e := Agree(m, a, b, p)
	y, f := Agree(m, b, a, p)
	if e != nil || f != nil || x != y {
		t.Fatal(m, a, b, p, x, e, y, f)
	}
	return x
}

// ticks are so many.
func ticks(n int) []api.Step { return make([]api.Step, n) }

// long is a run in which each of usual's partitions, and nobody, is asked at.
func long() []api.Step {
	return []api.Step{
		{Kind: api.GetStatus}, {Kind: api.SetSched, Arg: 2}, {}, // of 3
		{Kind: api.WriteCell, Value: 9}, {Kind: api.SetMode, Arg: api.Normal}, {Kind: -1}, {}, // of 3
		{Kind: api.SetSched, Arg: 1}, {Kind: api.SetMode, Arg: api.Normal}, {Kind: api.WriteCell, Arg: 1, Value: 4}, {Kind: 6}, {}, // of 5
		{Kind: api.GetStatus}, {Kind: 9}, {}, // of nobody
		{Kind: api.ReadCell, Arg: 1}, {}, // of 5
		{Kind: api.ReadCell}, {Kind: api.GetStatus}, {}, // of 3
		{}, // of 5
	}
}

func TestExample(t *testing.T) { // P30.2: a run, and the same run Stripped
	l := long()
	s := stripped(t, usual(), l, 5)
	if len(s) != len(l)-5 || !Same(of(t, usual(), l, 5), of(t, usual(), s, 5)) || !agree(t, usual(), l, s, 5) {
		t.Error(s)
	}
	if Same(of(t, usual(), l, 3), of(t, usual(), s, 3)) || Same(of(t, usual(), l, 5), of(t, usual(), l, 3)) {
		t.Error("others see 5")
	}
}

func TestOf(t *testing.T) { // P30.1
	ids, ran := []int{3, 3, 5, -1, 5, 3, 5}, []int{1, 1, 1, 1, 2, 2, 2}
	of3 := []api.Out{
		{Kind: 2, Owner: 3, Status: api.Status{Current: 1, Next: 1}}, {Kind: 1, Owner: 3},
		{Kind: 5, Owner: 3}, {Kind: 3, Owner: 3}, {Kind: -1, Owner: 3, Code: api.InvalidParam},
	}
	of5 := []api.Out{{Kind: 1, Owner: 5, Code: api.InvalidConfig}, {Kind: 3, Owner: 5}, {Kind: 5, Owner: 5}, {Kind: 6, Owner: 5, Code: api.InvalidParam}}
	none := []api.Out{{Kind: 2, Owner: -1, Code: api.NotAvailable}, {Kind: 9, Owner: -1, Code: api.InvalidParam}}
	again5 := []api.Out{{Kind: 4, Owner: 5, Value: 2}}
	again3 := []api.Out{{Kind: 4, Owner: 3, Value: 7}, {Kind: 2, Owner: 3, Status: api.Status{Last: 104, Current: 2, Next: 2}}}
	shot3 := part.Shot{Id: 3, Mode: api.Warm, Starts: 2, Cause: 2, Cells: []uint32{7}}
	shot5 := part.Shot{Id: 5, Mode: api.Cold, Starts: 2, Cause: 2, Cells: []uint32{1, 2}}
	shot9 := part.Shot{Id: 9, Mode: api.Cold, Starts: 1}
	for _, x := range []struct {
		p     int
		outs  [][]api.Out
		shots []part.Shot
	}{
		{3, [][]api.Out{of5, none, again5}, []part.Shot{shot5, shot9}},
		{5, [][]api.Out{of3, none, again3}, []part.Shot{shot3, shot9}},
		{9, [][]api.Out{of3, of5, none, again5, again3}, []part.Shot{shot3, shot5}},
		{-1, [][]api.Out{of3, of5, again5, again3}, []part.Shot{shot3, shot5, shot9}},
		{0, [][]api.Out{of3, of5, none, again5, again3}, []part.Shot{shot3, shot5, shot9}},
		{-2, [][]api.Out{of3, of5, none, again5, again3}, []part.Shot{shot3, shot5, shot9}},
		{3 - 1<<32, [][]api.Out{of3, of5, none, again5, again3}, []part.Shot{shot3, shot5, shot9}},
	} {
		v := of(t, usual(), long(), x.p)
		if want := (View{ids, ran, slices.Concat(x.outs...), x.shots}); !one(v, want) {
			t.Error(x.p, v, want)
		}
	}
}

func TestOfNothing(t *testing.T) { // P30.1: no steps, and Ticks alone
	first := []part.Shot{{Id: 3, Mode: 1, Starts: 1, Cells: []uint32{7}}, {Id: 5, Mode: 1, Starts: 1, Cells: []uint32{1, 2}}, {Id: 9, Mode: 1, Starts: 1}}
	for _, l := range [][]api.Step{nil, {}} {
		if v := of(t, usual(), l, -1); !one(v, View{Shots: first}) {
			t.Error(v)
		}
		if v := of(t, usual(), l, 9); !one(v, View{Shots: first[:2]}) {
			t.Error(v)
		}
	}
	if v := of(t, usual(), ticks(5), 3); !one(v, View{[]int{3, 3, 5, -1, 3}, []int{1, 1, 1, 1, 1}, nil, first[1:]}) {
		t.Error(v)
	}
}

func TestHalted(t *testing.T) { // P30.1: what is emitted ends with the clock; what is asked then is nobody's
	calls := []api.Step{{Kind: api.GetStatus}, {Kind: api.SetSched, Arg: 2}, {Kind: 6}, {Kind: -1}}
	for left := range 10 {
		m := usual()
		m.Epoch = end - uint64(left)
		l := slices.Concat(ticks(left), calls, ticks(3), calls)
		full := of(t, m, ticks(left), 77)
		if len(full.Owners) != left || len(full.Schedules) != left {
			t.Fatal(left, full)
		}
		for _, p := range []int{-1, 3, 5, 9, 77} {
			v := of(t, m, l, p)
			if !slices.Equal(v.Owners, full.Owners) || !slices.Equal(v.Schedules, full.Schedules) || !one(v, model(t, m, l, p)) {
				t.Error(left, p, v)
			}
			s := stripped(t, m, l, p)
			if p == -1 {
				if len(v.Outs) != 0 || !slices.Equal(s, ticks(left+3)) {
					t.Error(left, v.Outs, s)
				}
				continue
			}
			told := []api.Out{{Kind: 2, Owner: -1, Code: 2}, {Kind: 1, Owner: -1, Code: 2}, {Kind: 6, Owner: -1, Code: 3}, {Kind: -1, Owner: -1, Code: 3}}
			if !slices.Equal(v.Outs, slices.Concat(told, told)) || !slices.Equal(s, l) {
				t.Error(left, p, v.Outs, s)
			}
		}
		// The calls ahead of the last tick are its owner's, those behind it nobody's.
		if left == 2 {
			l = slices.Concat(ticks(1), calls, ticks(1), calls)
			if s := stripped(t, m, l, 3); !slices.Equal(s, slices.Concat(ticks(2), calls)) {
				t.Error(s)
			}
			if s := stripped(t, m, l, -1); !slices.Equal(s, slices.Concat(ticks(1), calls, ticks(1))) {
				t.Error(s)
			}
			if agree(t, m, ticks(2), ticks(3), -1) || !agree(t, m, l, l[:6], -1) || agree(t, m, l, l[:6], 3) {
				t.Error("ticks of a halted clock are ticks")
			}
		}
	}
}

func TestLastBoundary(t *testing.T) { // P30.1: the schedule that ran at a tick, not the one that it makes run
	m := usual()
	m.Epoch = end - 4
	l := append([]api.Step{{Kind: api.SetSched, Arg: 2}}, ticks(6)...)
	v := of(t, m, l, 3)
	if !slices.Equal(v.Owners, []int{3, 3, 5, -1}) || !slices.Equal(v.Schedules, []int{1, 1, 1, 1}) || v.Shots[0].Starts != 2 || len(v.Outs) != 0 {
		t.Error(v)
	}
	if s := stripped(t, m, l, 3); !slices.Equal(s, ticks(6)) {
		t.Error(s)
	}
}

func TestOfModel(t *testing.T) { // P30.1: any runs, any partition
	next := ruled(1)
	changed := 0
	for range 400 {
		m := mixed(t, next)
		l := steps(next, 60)
		for _, p := range whose(m, next) {
			v := of(t, m, l, p)
			if want := model(t, m, l, p); !one(v, want) {
				t.Fatal(m, l, p, v, want)
			}
			if slices.Min(append(v.Schedules, 99)) < slices.Max(append(v.Schedules, -1)) {
				changed++
			}
		}
	}
	if changed < 50 {
		t.Error(changed)
	}
}

func TestFrames(t *testing.T) { // P30.1: owners and schedules go together: frame by frame they are its windows'
	next := ruled(2)
	for range 300 {
		m := mixed(t, next)
		l := steps(next, 200)
		v := of(t, m, l, next(5))
		for at := 0; at < len(v.Owners); {
			i := slices.Index(check.Scheds(m), v.Schedules[at])
			x := m.Schedules[i]
			for j := range min(x.Frame, len(v.Owners)-at) {
				if v.Schedules[at+j] != x.Id || v.Owners[at+j] != window.Owner(x, j) {
					t.Fatal(m, l, v, at, j)
				}
			}
			at += x.Frame
		}
	}
}

func TestStrip(t *testing.T) { // P30.1
	l := long()
	for _, x := range []struct {
		p   int
		out []int // the places of what isn't there any more
	}{
		{3, []int{0, 1, 3, 4, 5, 17, 18}},
		{5, []int{7, 8, 9, 10, 15}},
		{-1, []int{12, 13}},
		{9, nil}, {0, nil}, {-2, nil}, {math.MaxInt, nil}, {math.MinInt, nil}, {5 + 1<<32, nil},
	} {
		var want []api.Step
		for i, s := range l {
			if !slices.Contains(x.out, i) {
				want = append(want, s)
			}
		}
		if s := stripped(t, usual(), l, x.p); !slices.Equal(s, want) {
			t.Error(x.p, s, want)
		}
	}
	for _, l := range [][]api.Step{nil, {}} {
		if s := stripped(t, usual(), l, 3); len(s) != 0 {
			t.Error(s)
		}
	}
}

func TestStripOfAll(t *testing.T) { // P30.1: whose a tick is, is told by a kernel that does all of the steps, also those that are left out
	m := usual()
	read, look := []api.Step{{Kind: api.ReadCell}}, []api.Step{{Kind: api.GetStatus}}
	// In the schedule 2 the one is 5's and the other one 3's; in 1, which runs on without the first step, both are 3's.
	l := slices.Concat([]api.Step{{Kind: api.SetSched, Arg: 2}}, ticks(4), read, ticks(1), look, ticks(1))
	if s := stripped(t, m, l, 3); !slices.Equal(s, slices.Concat(ticks(4), read, ticks(2))) {
		t.Error(s)
	}
	if s := stripped(t, m, stripped(t, m, l, 3), 3); !slices.Equal(s, ticks(6)) {
		t.Error(s)
	}
}

func TestStripModel(t *testing.T) { // P30.1: any runs, any partition
	next := ruled(3)
	gone := 0
	for range 400 {
		m := mixed(t, next)
		l := steps(next, 60)
		if next(4) == 0 {
			for i := range l {
				l[i].Arg = next(4) // also of Ticks, which stay as they are
			}
		}
		by := owners(t, m, l)
		for _, p := range whose(m, next) {
			var want []api.Step
			for i, x := range l {
				if x.Kind == 0 || by[i] != p {
					want = append(want, x)
				}
			}
			s := stripped(t, m, l, p)
			if !slices.Equal(s, want) {
				t.Fatal(m, l, p, s, want)
			}
			gone += len(l) - len(s)
			if !May(m, p) && !slices.Equal(stripped(t, m, s, p), s) {
				t.Fatal(m, l, p, s)
			}
		}
	}
	if gone < 1000 {
		t.Error(gone)
	}
}

// groups are what isn't p's of the steps between two Ticks, ahead of the first one, and behind the last one.
func groups(t *testing.T, m api.Module, l []api.Step, p int) [][]api.Step {
	t.Helper()
	g := [][]api.Step{nil}
	for i, id := range owners(t, m, l) {
		switch {
		case l[i].Kind == 0:
			g = append(g, nil)
		case id != p:
			g[len(g)-1] = append(g[len(g)-1], l[i])
		}
	}
	return g
}

// worn is a run with a few steps that aren't there, that are others, or that are there too.
func worn(l []api.Step, next func(n int) int) []api.Step {
	l = slices.Clone(l)
	for range next(4) {
		i := next(len(l) + 1)
		switch x := call(next); {
		case next(8) == 0:
			l = slices.Insert(l, i, api.Step{})
		case next(2) == 0 || i == len(l):
			l = slices.Insert(l, i, x)
		case next(2) == 0 && l[i].Kind != 0:
			l[i] = x
		case l[i].Kind != 0 || next(8) == 0:
			l = slices.Delete(l, i, i+1)
		}
	}
	return l
}

func TestAgree(t *testing.T) { // P30.1
	look, read, write := api.Step{Kind: api.GetStatus}, api.Step{Kind: api.ReadCell}, api.Step{Kind: api.WriteCell, Value: 1}
	tick := api.Step{}
	for i, x := range []struct {
		a, b []api.Step
		p    int
		ok   bool
	}{
		{nil, nil, 3, true},
		{nil, []api.Step{}, 5, true},
		{nil, []api.Step{look}, 3, true},
		{nil, []api.Step{look}, 5, false},
		{nil, []api.Step{look}, -1, false},
		{nil, []api.Step{tick}, 3, false},
		{[]api.Step{tick}, []api.Step{tick, tick}, 3, false},
		{[]api.Step{look, tick, read, write}, []api.Step{read, read, tick}, 3, true},
		{[]api.Step{look, tick}, []api.Step{tick, look}, 3, true},
		{[]api.Step{look, tick}, []api.Step{tick, look}, 5, false},
		{[]api.Step{tick, tick, look, tick, read, tick}, []api.Step{tick, tick, tick, tick}, 5, false},
		{[]api.Step{tick, tick, look, tick, read, tick}, []api.Step{tick, tick, tick, tick}, -1, false},
		{[]api.Step{tick, tick, look, tick, read, tick}, []api.Step{tick, tick, tick, read, tick}, 5, true},
		{[]api.Step{tick, tick, look, tick, read, tick}, []api.Step{tick, tick, look, tick, tick}, -1, true},
		{[]api.Step{look, read, tick}, []api.Step{read, look, tick}, 5, false},
		{[]api.Step{look, read, tick}, []api.Step{look, read, write, tick}, 5, false},
		{[]api.Step{write}, []api.Step{{Kind: api.WriteCell, Value: 2}}, 5, false},
		{[]api.Step{write}, []api.Step{{Kind: api.WriteCell, Value: 1, Arg: 1}}, 5, false},
		{[]api.Step{write}, []api.Step{write}, 5, true},
	} {
		if ok := agree(t, usual(), x.a, x.b, x.p); ok != x.ok {
			t.Error(i, x, ok)
		}
	}
}

func TestAgreeModel(t *testing.T) { // P30.1: group by group between the Ticks
	next := ruled(4)
	count := [2]int{}
	for range 600 {
		m := mixed(t, next)
		a := steps(next, 30)
		b := worn(a, next)
		for _, p := range whose(m, next) {
			want := slices.EqualFunc(groups(t, m, a, p), groups(t, m, b, p), slices.Equal[[]api.Step])
			if ok := agree(t, m, a, b, p); ok != want {
				t.Fatal(m, a, b, p, ok)
			}
			if want != slices.Equal(stripped(t, m, a, p), stripped(t, m, b, p)) {
				t.Fatal(m, a, b, p)
			}
			if want && !slices.Equal(a, b) {
				count[0]++
			} else if !want {
				count[1]++
			}
		}
	}
	if count[0] < 100 || count[1] < 100 {
		t.Error(count)
	}
}

func TestSame(t *testing.T) { // P30.1: views that differ in one thing aren't one
	base := func() View {
		return View{
			Owners:    []int{3, 5},
			Schedules: []int{1, 2},
			Outs:      []api.Out{{Kind: 2, Owner: 3, Code: 1, Status: api.Status{Last: 4, Current: 5, Next: 6}, Value: 7}, {Kind: 6}},
			Shots:     []part.Shot{{Id: 3, Mode: 1, Starts: 2, Cause: 1, Cells: []uint32{7, 8}}, {Id: 9}},
		}
	}
	changes := []func(v *View){
		func(*View) {},
		func(v *View) { v.Owners[0] = 4 },
		func(v *View) { v.Owners[1] = -1 },
		func(v *View) { v.Owners = v.Owners[:1] },
		func(v *View) { v.Owners = nil },
		func(v *View) { v.Owners = append(v.Owners, 5) },
		func(v *View) { slices.Reverse(v.Owners) },
		func(v *View) { v.Schedules[0] = 2 },
		func(v *View) { v.Schedules[1] = 3 },
		func(v *View) { v.Schedules = v.Schedules[1:] },
		func(v *View) { v.Schedules = nil },
		func(v *View) { v.Owners, v.Schedules = v.Schedules, v.Owners },
		func(v *View) { v.Outs[0].Kind++ },
		func(v *View) { v.Outs[0].Owner++ },
		func(v *View) { v.Outs[0].Code++ },
		func(v *View) { v.Outs[0].Status.Last++ },
		func(v *View) { v.Outs[0].Status.Current++ },
		func(v *View) { v.Outs[0].Status.Next++ },
		func(v *View) { v.Outs[0].Value++ },
		func(v *View) { v.Outs[1].Value++ },
		func(v *View) { v.Outs = v.Outs[:1] },
		func(v *View) { v.Outs = nil },
		func(v *View) { slices.Reverse(v.Outs) },
		func(v *View) { v.Shots[0].Id++ },
		func(v *View) { v.Shots[0].Mode++ },
		func(v *View) { v.Shots[0].Starts++ },
		func(v *View) { v.Shots[0].Cause++ },
		func(v *View) { v.Shots[0].Cells[1]++ },
		func(v *View) { v.Shots[0].Cells = v.Shots[0].Cells[:1] },
		func(v *View) { v.Shots[1].Cells = []uint32{0} },
		func(v *View) { v.Shots[1].Mode = 3 },
		func(v *View) { v.Shots = v.Shots[:1] },
		func(v *View) { v.Shots = nil },
		func(v *View) { slices.Reverse(v.Shots) },
		func(v *View) { *v = View{} },
	}
	for i, change := range changes {
		for j, other := range changes {
			a, b := base(), base()
			change(&a)
			other(&b)
			if Same(a, b) != (i == j) {
				t.Error(i, j, a, b)
			}
		}
	}
	empty := View{[]int{}, []int{}, []api.Out{}, []part.Shot{}}
	if !Same(View{}, empty) || !Same(empty, View{}) {
		t.Error("nil and empty are one")
	}
	a, b := base(), base()
	b.Shots[1].Cells = []uint32{}
	if !Same(a, b) || !Same(b, a) {
		t.Error("nil and empty are one")
	}
}

func TestMay(t *testing.T) { // P30.1: of any module, also one that isn't valid
	m := usual()
	for p := -3; p < 300; p++ {
		if May(m, p) != (p == 3) {
			t.Error(p)
		}
		if one := []api.Partition{{Id: p}}; May(api.Module{Parts: one}, p) {
			t.Error(p)
		}
	}
	for _, p := range odd {
		if May(m, p) || May(api.Module{}, p) || May(api.Module{Parts: []api.Partition{{May: true}}}, p) {
			t.Error(p)
		}
		if !May(api.Module{Parts: []api.Partition{{Id: 1}, {Id: p, May: true}}}, p) || May(api.Module{Parts: []api.Partition{{Id: 1, May: true}, {Id: p}}}, p) {
			t.Error(p)
		}
	}
	twice := api.Module{Parts: []api.Partition{{Id: 4}, {Id: 4, May: true}, {Id: 4}}}
	if !May(twice, 4) || May(twice, 0) || !May(api.Module{Parts: []api.Partition{{May: true}}}, 0) {
		t.Error(twice)
	}
}

func TestRefused(t *testing.T) { // P30.1: what is wrong with a module is told as it is; beside it nothing
	next := ruled(5)
	for i, wear := range []func(m *api.Module){
		func(m *api.Module) { *m = api.Module{} },
		func(m *api.Module) { m.First = 3 },
		func(m *api.Module) { m.Parts[1].Id = 3 },
		func(m *api.Module) { m.Parts[2].Name = "A" },
		func(m *api.Module) { m.Parts[0].Name = "" },
		func(m *api.Module) { m.Schedules[1].Windows[1].Offset = 0 },
		func(m *api.Module) { m.Schedules[2].Frame = 0 },
		func(m *api.Module) { m.Pairs[2].To = 2 },
		func(m *api.Module) { m.Acts[1].Action = 0 },
	} {
		m := usual()
		wear(&m)
		_, want := kernel.New(m)
		if want == nil {
			t.Fatal(i)
		}
		for _, l := range [][]api.Step{nil, long(), steps(next, 20)} {
			v, e := Of(m, l, next(6))
			s, f := Strip(m, l, next(6))
			ok, g := Agree(m, l, l, next(6))
			if fault.Text(e) != fault.Text(want) || fault.Text(f) != fault.Text(want) || fault.Text(g) != fault.Text(want) {
				t.Error(i, e, f, g, want)
			}
			if !one(v, View{}) || len(s) != 0 || ok {
				t.Error(i, v, s, ok)
			}
		}
	}
	m := usual()
	m.Schedules[1].Windows[1].Offset = 0
	if _, e := Of(m, nil, 0); fault.Text(e) != "section 3: at 1: at 1: overlap" {
		t.Error(e)
	}
}

// other is a run whose calls where p owns the tick are others.
func other(t *testing.T, m api.Module, l []api.Step, p int, next func(n int) int) []api.Step {
	t.Helper()
	given, made := made(t, m), made(t, m)
	var out []api.Step
	lay := func(x api.Step) {
		made.Do(x)
		out = append(out, x)
	}
	for _, x := range l {
		for made.Owner() == p && next(3) > 0 {
			lay(call(next))
		}
		if x.Kind == 0 || given.Owner() != p || next(2) == 0 {
			lay(x)
		}
		given.Do(x)
	}
	for made.Owner() == p && next(3) > 0 {
		lay(call(next))
	}
	return out
}

func TestUnseen(t *testing.T) { // P30.2
	next := ruled(6)
	count, seen, differ := 0, 0, 0
	for range 1000 {
		m := mixed(t, next)
		a := steps(next, 80)
		for _, p := range whose(m, next) {
			b := other(t, m, a, p, next)
			ok := agree(t, m, a, b, p)
			same := Same(of(t, m, a, p), of(t, m, b, p))
			if May(m, p) {
				// Such a one may be seen.
				if ok && !same {
					seen++
				}
				continue
			}
			if !ok || !same {
				t.Fatal(m, a, b, p, ok, same)
			}
			if !Same(of(t, m, a, p), of(t, m, stripped(t, m, a, p), p)) {
				t.Fatal(m, a, p)
			}
			if !slices.Equal(a, b) {
				count++
			}
			if p >= 0 && !Same(of(t, m, a, -1), of(t, m, b, -1)) {
				differ++
			}
		}
	}
	// Partitions that may not change schedules did other things, and it is only they that see it.
	if count < 500 || seen < 20 || differ < 300 {
		t.Error(count, seen, differ)
	}
}

func TestUnseenWorn(t *testing.T) { // P30.2: of any two runs that agree
	next := ruled(7)
	count := 0
	for range 1000 {
		m := mixed(t, next)
		a := steps(next, 40)
		b := worn(a, next)
		for _, p := range whose(m, next) {
			if May(m, p) || !agree(t, m, a, b, p) {
				continue
			}
			if !Same(of(t, m, a, p), of(t, m, b, p)) {
				t.Fatal(m, a, b, p)
			}
			if !slices.Equal(a, b) {
				count++
			}
		}
	}
	if count < 100 {
		t.Error(count)
	}
}

func TestNothingShared(t *testing.T) { // P30.1: what was handed in isn't changed, nor its spare room; what is told is new
	room := append(long(), api.Step{Kind: 77}, api.Step{Kind: 78})
	l := room[: len(room)-2 : len(room)]
	whole := slices.Clone(room)
	m := usual()
	cells := append(m.Parts[0].Cells, api.Cell{Value: 77})
	m.Parts[0].Cells = cells[:1]
	v, s := of(t, m, l, 5), stripped(t, m, l, 9)
	agree(t, m, l, s, 5)
	w := of(t, m, l, 5)
	if !slices.Equal(s, l) {
		t.Fatal(s)
	}
	clear(s)
	_ = append(s[:1], api.Step{Kind: 79})
	clear(v.Owners)
	clear(v.Schedules)
	clear(v.Outs)
	clear(v.Shots[0].Cells)
	_ = append(v.Shots[0].Cells, 9)
	clear(v.Shots)
	if !slices.Equal(room, whole) || !slices.Equal(cells, []api.Cell{{Value: 7}, {Value: 77}}) || !slices.Equal(check.Parts(m), []int{3, 5, 9}) {
		t.Error(room, cells, m)
	}
	if !one(w, model(t, m, l, 5)) || !one(of(t, m, l, 5), w) {
		t.Error(w)
	}
	// No two lists of one answer share any.
	full := slices.Clone(w.Owners)
	_ = append(w.Schedules, 1, 2, 3)
	_ = append(w.Shots[0].Cells, 1, 2, 3)
	if !slices.Equal(w.Owners, full) || !one(w, model(t, m, l, 5)) {
		t.Error(w)
	}
}

func TestMany(t *testing.T) { // P30.1: many steps end soon
	m := usual()
	m.Pairs = append(m.Pairs, api.Pair{From: 4, To: 1})
	var l []api.Step
	for i := range 100000 {
		l = append(l, api.Step{}, api.Step{Kind: api.SetSched, Arg: 1 + i%2}, api.Step{Kind: api.WriteCell, Value: uint32(i)})
	}
	v, s := of(t, m, l, 5), stripped(t, m, l, 5)
	if len(v.Owners) != 100000 || len(v.Schedules) != 100000 || len(v.Outs)+100000 != len(s) || !agree(t, m, l, s, 5) || !Same(v, of(t, m, s, 5)) {
		t.Error(len(v.Owners), len(v.Schedules), len(v.Outs), len(s))
	}
}
