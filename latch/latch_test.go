package latch

import (
	"math"
	"slices"
	"testing"

	"countwheel/api"
)

// ruled is a row of numbers that a rule makes, each of which is below what it is asked with.
func ruled(x uint64) func(n int) int {
	return func(n int) int {
		x = x*6364136223846793005 + 1442695040888963407
		return int(x>>33) % n
	}
}

// odd are numbers that no valid module has.
var odd = []int{math.MinInt, -1 << 33, -256, -2, -1, 256, 257, 1 << 31, 1 << 32, 1<<32 + 1, 1 << 62, math.MaxInt}

// usual is a module of three schedules and three partitions, of which two may.
func usual() api.Module {
	return api.Module{
		First:     2,
		Parts:     []api.Partition{{Id: 1, Name: "A", May: true}, {Id: 3, Name: "B"}, {Id: 4, Name: "C", May: true}},
		Schedules: []api.Schedule{{Id: 2, Frame: 5}, {Id: 7, Frame: 5}, {Id: 9, Frame: 5}},
		Pairs:     []api.Pair{{From: 2, To: 7}, {From: 2, To: 9}, {From: 7, To: 2}},
	}
}

// mixed is a module that need not be valid: ids may stand several times, and transitions may lead to themselves, or to what isn't there.
func mixed(next func(n int) int) api.Module {
	id := func(n int) int {
		if next(12) == 0 {
			return odd[next(len(odd))]
		}
		return next(n)
	}
	var m api.Module
	for range next(9) {
		m.Parts = append(m.Parts, api.Partition{Id: id(5), May: next(2) == 0})
	}
	for range next(12) {
		m.Schedules = append(m.Schedules, api.Schedule{Id: id(6), Frame: next(4)})
	}
	for range next(60) {
		m.Pairs = append(m.Pairs, api.Pair{From: id(6), To: id(6)})
	}
	return m
}

// copied is a module whose partitions, schedules and transitions are its own.
func copied(m api.Module) api.Module {
	m.Parts, m.Schedules, m.Pairs = slices.Clone(m.Parts), slices.Clone(m.Schedules), slices.Clone(m.Pairs)
	return m
}

// schedule tells whether a module has one.
func schedule(m api.Module, id int) bool {
	return slices.ContainsFunc(m.Schedules, func(x api.Schedule) bool { return x.Id == id })
}

// may tells whether a module has a partition of an id that may change schedules.
func may(m api.Module, id int) bool {
	return slices.ContainsFunc(m.Parts, func(p api.Partition) bool { return p.Id == id && p.May })
}

// code is what asking is to answer.
func code(m api.Module, caller, current, id int) api.Code {
	if !schedule(m, id) {
		return api.InvalidParam
	}
	if !may(m, caller) {
		return api.InvalidConfig
	}
	if id == current {
		return api.NoAction
	}
	for _, p := range m.Pairs {
		if p.From == current && p.To == id {
			return api.NoError
		}
	}
	return api.InvalidMode
}

// model is a latch that keeps all that was granted since the last boundary.
type model struct {
	m       api.Module
	runs    int
	granted []int
	changed []uint64
}

// copy is a model of its own.
func (x *model) copy() *model {
	return &model{m: x.m, runs: x.runs, granted: slices.Clone(x.granted), changed: slices.Clone(x.changed)}
}

// ask is Ask of the model.
func (x *model) ask(caller, id int) api.Code {
	k := code(x.m, caller, x.runs, id)
	if k == api.NoError {
		x.granted = append(x.granted, id)
	}
	return k
}

// status is Status of the model.
func (x *model) status() api.Status {
	s := api.Status{Current: x.runs, Next: x.runs}
	if n := len(x.granted); n > 0 {
		s.Next = x.granted[n-1]
	}
	if n := len(x.changed); n > 0 {
		s.Last = x.changed[n-1]
	}
	return s
}

// boundary is Boundary of the model.
func (x *model) boundary(now uint64) bool {
	due := x.status().Next
	x.granted = nil
	if due == x.runs {
		return false
	}
	x.runs = due
	x.changed = append(x.changed, now)
	return true
}

// is holds how a latch stands against the model, twice: to ask changes nothing.
func is(t *testing.T, l *Latch, x *model) {
	t.Helper()
	for range 2 {
		if s := l.Status(); s != x.status() {
			t.Fatal(s, x.status(), x.m)
		}
	}
}

// made is a latch of a module in which a schedule runs, and its model.
func made(t *testing.T, m api.Module, current int) (*Latch, *model) {
	t.Helper()
	l, e := New(Of(m), current)
	if l == nil || e != api.OK {
		t.Fatal(m, current, e)
	}
	x := &model{m: m, runs: current}
	is(t, l, x)
	return l, x
}

// does lets both do one thing.
func does(t *testing.T, l *Latch, x *model, next func(n int) int) {
	t.Helper()
	if next(4) == 0 {
		now := uint64(next(1<<30)) << next(34)
		if next(5) == 0 {
			now = []uint64{0, 1, math.MaxUint64 - 1, math.MaxUint64}[next(4)]
		}
		if changed, want := l.Boundary(now), x.boundary(now); changed != want {
			t.Fatal(changed, want, x.m)
		}
	} else {
		caller, id := next(5), next(6)
		switch next(16) {
		case 0:
			caller = odd[next(len(odd))]
		case 1:
			id = odd[next(len(odd))]
		}
		was := l.Status()
		k, want := l.Ask(caller, id), x.ask(caller, id)
		if k != want {
			t.Fatal(caller, id, k, want, x.m)
		}
		if k != api.NoError && l.Status() != was {
			t.Fatal("changed by", k)
		}
	}
	is(t, l, x)
}

func TestOf(t *testing.T) { // P24.1
	r := Of(usual())
	for id := -3; id < 300; id++ {
		if r.Schedule(id) != (id == 2 || id == 7 || id == 9) {
			t.Error("schedule", id)
		}
		if r.May(id) != (id == 1 || id == 4) {
			t.Error("may", id)
		}
	}
	for _, id := range append(odd, 1<<32+2, 1<<32+7) {
		if r.Schedule(id) || r.May(id) {
			t.Error(id)
		}
	}
}

func TestOfNothing(t *testing.T) { // P24.1: a module in which there is nothing
	r := Of(api.Module{})
	if r == nil {
		t.Fatal("nil")
	}
	for _, id := range append(odd, 0, 1, 255) {
		if r.Schedule(id) || r.May(id) || r.Code(id, id, id) != api.InvalidParam {
			t.Error(id)
		}
		if l, e := New(r, id); l != nil || e != api.ErrRef {
			t.Error(id, e)
		}
	}
}

func TestMayOfSeveral(t *testing.T) { // P24.1: one of that id that may is enough, wherever it stands
	yes, no := api.Partition{Id: 5, May: true}, api.Partition{Id: 5}
	for _, x := range []struct {
		l    []api.Partition
		want bool
	}{
		{nil, false},
		{[]api.Partition{no}, false},
		{[]api.Partition{no, no}, false},
		{[]api.Partition{yes}, true},
		{[]api.Partition{yes, no}, true},
		{[]api.Partition{no, yes}, true},
		{[]api.Partition{no, yes, no}, true},
		{[]api.Partition{yes, yes}, true},
		{[]api.Partition{{Id: 4, May: true}, no}, false},
	} {
		r := Of(api.Module{Parts: x.l, Schedules: []api.Schedule{{Id: 1}}})
		k := api.InvalidConfig
		if x.want {
			k = api.NoAction
		}
		if r.May(5) != x.want || r.Code(5, 1, 1) != k {
			t.Error(x, r.Code(5, 1, 1))
		}
	}
}

func TestCodeWrittenOut(t *testing.T) { // P24.1: the first that is so counts
	r := Of(usual())
	for _, x := range []struct {
		caller, current, id int
		want                api.Code
	}{
		{3, 2, 5, api.InvalidParam}, // no such schedule, of one that may not
		{1, 2, 5, api.InvalidParam},
		{8, 5, 5, api.InvalidParam}, // nor one that runs
		{1, 5, 5, api.InvalidParam},
		{1, 2, -1, api.InvalidParam},
		{1, 2, 1<<32 + 7, api.InvalidParam},
		{3, 2, 7, api.InvalidConfig},
		{3, 2, 2, api.InvalidConfig}, // one that runs, of one that may not
		{3, 7, 9, api.InvalidConfig}, // no transition, of one that may not
		{8, 2, 7, api.InvalidConfig}, // no such partition
		{-1, 2, 7, api.InvalidConfig},
		{1<<32 + 1, 2, 7, api.InvalidConfig},
		{1, 2, 2, api.NoAction},
		{4, 7, 7, api.NoAction},
		{1, 9, 9, api.NoAction},
		{1, 7, 9, api.InvalidMode},
		{4, 9, 2, api.InvalidMode}, // a transition the other way alone
		{1, 9, 7, api.InvalidMode},
		{1, 5, 7, api.InvalidMode}, // what runs isn't a schedule
		{1, -1, 7, api.InvalidMode},
		{1, 1<<32 + 2, 7, api.InvalidMode},
		{1, 2, 7, api.NoError},
		{4, 2, 9, api.NoError},
		{1, 7, 2, api.NoError},
	} {
		for range 2 {
			if k := r.Code(x.caller, x.current, x.id); k != x.want {
				t.Error(x, k)
			}
		}
	}
}

func TestCodeOfItself(t *testing.T) { // P24.1: transitions that no valid module has
	r := Of(api.Module{
		Parts:     []api.Partition{{Id: 1, May: true}},
		Schedules: []api.Schedule{{Id: 3}, {Id: 3}, {Id: 4}},
		Pairs:     []api.Pair{{From: 3, To: 3}, {From: 3, To: 8}, {From: 8, To: 4}, {From: 8, To: 4}, {From: -1, To: 3}},
	})
	for _, x := range []struct {
		current, id int
		want        api.Code
	}{{3, 3, api.NoAction}, {3, 8, api.InvalidParam}, {8, 8, api.InvalidParam}, {8, 4, api.NoError}, {-1, 3, api.NoError}, {3, 4, api.InvalidMode}} {
		if k := r.Code(1, x.current, x.id); k != x.want {
			t.Error(x, k)
		}
	}
}

func TestCode(t *testing.T) { // P24.1: of any modules, at any numbers
	next := ruled(3)
	numbers := append([]int{0, 1, 2, 3, 4, 5, 6}, odd...)
	seen := map[api.Code]int{}
	for range 60 {
		m := mixed(next)
		r := Of(m)
		for _, caller := range numbers {
			if r.May(caller) != may(m, caller) || r.Schedule(caller) != schedule(m, caller) {
				t.Fatal(caller, m)
			}
			for _, current := range numbers {
				for _, id := range numbers {
					want := code(m, caller, current, id)
					seen[want]++
					if k := r.Code(caller, current, id); k != want {
						t.Fatal(caller, current, id, k, want, m)
					}
				}
			}
		}
	}
	if len(seen) != 5 {
		t.Error(seen)
	}
}

func TestOfKeepsNothing(t *testing.T) { // P24.1: what is handed in is neither changed nor kept
	m := usual()
	r := Of(m)
	if u := usual(); !slices.Equal(m.Pairs, u.Pairs) || m.Parts[0].Id != 1 || !m.Parts[0].May || m.Parts[1].May || m.Schedules[2].Id != 9 {
		t.Error(m)
	}
	l, e := New(r, 2)
	if e != api.OK {
		t.Fatal(e)
	}
	m.Parts[0], m.Parts[1].May = api.Partition{}, true
	clear(m.Schedules)
	clear(m.Pairs)
	if !r.May(1) || r.May(3) || r.May(0) || !r.Schedule(2) || r.Schedule(0) || r.Code(1, 2, 7) != api.NoError || r.Code(3, 2, 7) != api.InvalidConfig {
		t.Error("kept")
	}
	if l.Ask(1, 9) != api.NoError {
		t.Error(l.Status())
	}
}

func TestNew(t *testing.T) { // P24.1: any schedule may run at first, whatever the module's first one is
	for _, id := range []int{2, 7, 9} {
		l, _ := made(t, usual(), id)
		if l.Status() != (api.Status{Current: id, Next: id}) {
			t.Error(l.Status())
		}
	}
	for _, id := range append(odd, 0, 1, 3, 8, 10, 255, 1<<32+2) {
		if l, e := New(Of(usual()), id); l != nil || e != api.ErrRef {
			t.Error(id, e)
		}
	}
	m := api.Module{Schedules: []api.Schedule{{Id: math.MinInt}, {Id: -1}, {Id: math.MaxInt}}}
	for _, id := range []int{math.MinInt, -1, math.MaxInt} {
		made(t, m, id)
	}
}

func TestNewKeepsNoRules(t *testing.T) { // P24.1: rules that were handed in are neither changed nor kept
	r := Of(usual())
	l, _ := New(r, 2)
	c := l.Copy()
	*r = *Of(api.Module{})
	for _, x := range []*Latch{l, c} {
		if x.Ask(1, 5) != api.InvalidParam || x.Ask(3, 7) != api.InvalidConfig || x.Ask(1, 7) != api.NoError || !x.Boundary(1) {
			t.Error(x.Status())
		}
	}
}

func TestOneRules(t *testing.T) { // P24.1: several latches of the same rules, each for itself
	r := Of(usual())
	a, _ := New(r, 2)
	b, _ := New(r, 2)
	c, _ := New(r, 7)
	if a.Ask(1, 7) != api.NoError || b.Ask(4, 9) != api.NoError || c.Ask(1, 9) != api.InvalidMode {
		t.Error("ask")
	}
	if !a.Boundary(3) || c.Boundary(4) || !b.Boundary(5) {
		t.Error("boundary")
	}
	if a.Status() != (api.Status{Last: 3, Current: 7, Next: 7}) || b.Status() != (api.Status{Last: 5, Current: 9, Next: 9}) || c.Status() != (api.Status{Current: 7, Next: 7}) {
		t.Error(a.Status(), b.Status(), c.Status())
	}
	if r.Code(1, 2, 7) != api.NoError || !r.Schedule(2) || !r.May(1) {
		t.Error("rules")
	}
}

func TestAskWrittenOut(t *testing.T) { // P24.1, P24.2
	l, _ := made(t, usual(), 2)
	for i, x := range []struct {
		caller, id int
		want       api.Code
		next       int
	}{
		{1, 5, api.InvalidParam, 2},
		{3, 5, api.InvalidParam, 2},
		{3, 7, api.InvalidConfig, 2},
		{1, 2, api.NoAction, 2},
		{1, 7, api.NoError, 7},
		{1, 2, api.NoAction, 7},      // what runs can't be asked for, also in the place of what is due
		{3, 9, api.InvalidConfig, 7}, // what is refused leaves what is due
		{1, 8, api.InvalidParam, 7},
		{1, 7, api.NoError, 7},
		{4, 9, api.NoError, 9}, // another one's, in its place
		{1, 7, api.NoError, 7},
		{4, 9, api.NoError, 9},
	} {
		if k := l.Ask(x.caller, x.id); k != x.want || l.Status() != (api.Status{Current: 2, Next: x.next}) {
			t.Error(i, x, k, l.Status())
		}
	}
	if !l.Boundary(40) || l.Status() != (api.Status{Last: 40, Current: 9, Next: 9}) {
		t.Error(l.Status())
	}
	for _, id := range []int{2, 7} { // from where it runs now no transition leads
		if k := l.Ask(1, id); k != api.InvalidMode || l.Status() != (api.Status{Last: 40, Current: 9, Next: 9}) {
			t.Error(id, k, l.Status())
		}
	}
}

func TestBoundaryWrittenOut(t *testing.T) { // P24.1: Last is the time of the last change, whatever times there are behind it
	l, _ := made(t, usual(), 2)
	for i, x := range []struct {
		ask     int // 0: nothing
		now     uint64
		changed bool
		want    api.Status
	}{
		{0, 5, false, api.Status{Current: 2, Next: 2}},
		{0, math.MaxUint64, false, api.Status{Current: 2, Next: 2}},
		{7, 10, true, api.Status{Last: 10, Current: 7, Next: 7}},
		{0, 15, false, api.Status{Last: 10, Current: 7, Next: 7}},
		{2, 15, true, api.Status{Last: 15, Current: 2, Next: 2}},
		{2, 20, false, api.Status{Last: 15, Current: 2, Next: 2}},
		{9, 0, true, api.Status{Current: 9, Next: 9}},
		{2, 7, false, api.Status{Current: 9, Next: 9}},
	} {
		if x.ask != 0 {
			l.Ask(1, x.ask)
		}
		if changed := l.Boundary(x.now); changed != x.changed || l.Status() != x.want {
			t.Error(i, x, changed, l.Status())
		}
	}
	l, _ = made(t, usual(), 2)
	if l.Ask(4, 7); !l.Boundary(math.MaxUint64) || l.Status() != (api.Status{Last: math.MaxUint64, Current: 7, Next: 7}) {
		t.Error(l.Status())
	}
}

func TestAnyCalls(t *testing.T) { // P24.1, P24.2: behind any calls, of any modules
	next := ruled(7)
	for range 2000 {
		m := mixed(next)
		if len(m.Schedules) == 0 {
			continue
		}
		first := m.Schedules[next(len(m.Schedules))].Id
		l, x := made(t, copied(m), first)
		x.m = m
		for range 60 {
			does(t, l, x, next)
		}
	}
}

func TestAlongTransitions(t *testing.T) { // P24.3
	next := ruled(11)
	changes := 0
	for range 1500 {
		m := mixed(next)
		if len(m.Schedules) == 0 {
			continue
		}
		l, _ := made(t, m, m.Schedules[next(len(m.Schedules))].Id)
		for range 60 {
			was := l.Status()
			if next(3) > 0 {
				l.Ask(next(5), next(6))
				if s := l.Status(); s.Current != was.Current || s.Last != was.Last {
					t.Fatal("asking alone lets nothing run", was, s)
				}
				continue
			}
			changed := l.Boundary(uint64(next(1 << 20)))
			s := l.Status()
			if s.Current != was.Next || s.Next != s.Current || changed != (s.Current != was.Current) {
				t.Fatal(was, s, changed)
			}
			if changed {
				changes++
				if !slices.Contains(m.Pairs, api.Pair{From: was.Current, To: s.Current}) || !schedule(m, s.Current) {
					t.Fatal(was, s, m)
				}
			}
		}
	}
	if changes < 1000 {
		t.Error(changes)
	}
}

func TestCopyWrittenOut(t *testing.T) { // P24.1
	l, _ := made(t, usual(), 2)
	l.Ask(1, 7)
	c := l.Copy()
	if c == l || c.Status() != (api.Status{Current: 2, Next: 7}) {
		t.Error(c.Status())
	}
	if !l.Boundary(6) || c.Status() != (api.Status{Current: 2, Next: 7}) {
		t.Error(c.Status())
	}
	if c.Ask(4, 9) != api.NoError || !c.Boundary(8) || l.Status() != (api.Status{Last: 6, Current: 7, Next: 7}) || c.Status() != (api.Status{Last: 8, Current: 9, Next: 9}) {
		t.Error(l.Status(), c.Status())
	}
}

func TestCopy(t *testing.T) { // P24.1: as it is; each goes for itself
	next := ruled(17)
	for range 500 {
		m := mixed(next)
		if len(m.Schedules) == 0 {
			continue
		}
		l, x := made(t, m, m.Schedules[0].Id)
		for range next(20) {
			does(t, l, x, next)
		}
		d, y := l.Copy(), x.copy()
		is(t, d, y)
		for range 30 {
			if next(2) == 0 {
				does(t, l, x, next)
			} else {
				does(t, d, y, next)
			}
			is(t, l, x)
			is(t, d, y)
		}
	}
}

func TestMany(t *testing.T) { // P24.1: as many schedules and transitions as a module may have
	var m api.Module
	for i := range api.MaxParts {
		m.Parts = append(m.Parts, api.Partition{Id: i, May: i%2 == 0})
	}
	for i := range api.MaxScheds {
		m.Schedules = append(m.Schedules, api.Schedule{Id: i})
		for j := range api.MaxScheds {
			if i != j {
				m.Pairs = append(m.Pairs, api.Pair{From: i, To: j})
			}
		}
	}
	if len(m.Pairs) != api.MaxPairs {
		t.Fatal(len(m.Pairs))
	}
	next := ruled(19)
	l, x := made(t, m, 0)
	changes := 0
	for range 3000 {
		caller, id := next(api.MaxParts+1), next(api.MaxScheds+1)
		if k, want := l.Ask(caller, id), x.ask(caller, id); k != want {
			t.Fatal(caller, id, k, want)
		}
		if next(5) == 0 {
			now := uint64(next(1 << 30))
			changed := l.Boundary(now)
			if changed != x.boundary(now) {
				t.Fatal(changed)
			}
			if changed {
				changes++
			}
		}
		is(t, l, x)
	}
	if changes < 300 {
		t.Error(changes)
	}
}
