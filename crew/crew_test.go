package crew

import (
	"math"
	"slices"
	"testing"

	"countwheel/api"
	"countwheel/part"
)

// ruled is a row of numbers that a rule makes, each of which is below what it is asked with.
func ruled(x uint64) func(n int) int {
	return func(n int) int {
		x = x*6364136223846793005 + 1442695040888963407
		return int(x>>33) % n
	}
}

// mixed are n partitions, of some cells each, by rising ids, of which some are left out.
func mixed(next func(n int) int, n int) []api.Partition {
	l := make([]api.Partition, n)
	id := -next(3)
	for i := range l {
		id += 1 + next(3)
		l[i] = api.Partition{Id: id, Name: "P", May: next(2) == 0}
		for range next(4) {
			l[i].Cells = append(l[i].Cells, api.Cell{Value: uint32(next(1 << 20)), Kept: next(2) == 0})
		}
	}
	return l
}

// cloned are partitions with cells of their own.
func cloned(l []api.Partition) []api.Partition {
	out := slices.Clone(l)
	for i := range out {
		out[i].Cells = slices.Clone(l[i].Cells)
	}
	return out
}

// model is a crew that is a row of partitions.
type model []*part.Part

// modelled is the model of partitions.
func modelled(l []api.Partition) model {
	var m model
	for _, p := range l {
		m = append(m, part.New(p))
	}
	return m
}

// copy is a model of its own.
func (m model) copy() model {
	var n model
	for _, x := range m {
		n = append(n, x.Copy())
	}
	return n
}

// shots are all of the model.
func (m model) shots() []part.Shot {
	var l []part.Shot
	for _, x := range m {
		l = append(l, x.Shot())
	}
	return l
}

// action is what the first act of a schedule and a partition says.
func action(acts []api.Act, schedule, id int) int {
	for _, a := range acts {
		if a.Schedule == schedule && a.Partition == id {
			return a.Action
		}
	}
	return 0
}

// change is Change of the model.
func (m model) change(acts []api.Act, schedule int) []Did {
	var l []Did
	for _, x := range m {
		n := action(acts, schedule, x.Id())
		l = append(l, Did{Id: x.Id(), Action: n, Started: x.Act(n)})
	}
	return l
}

// shot is what a partition may be.
func shot(id, mode, starts, cause int, cells ...uint32) part.Shot {
	return part.Shot{Id: id, Mode: mode, Starts: starts, Cause: cause, Cells: cells}
}

// one tells whether two shots are one, field by field.
func one(a, b part.Shot) bool {
	return [4]int{a.Id, a.Mode, a.Starts, a.Cause} == [4]int{b.Id, b.Mode, b.Starts, b.Cause} && slices.Equal(a.Cells, b.Cells)
}

// is holds all that a crew tells against the model.
func is(t *testing.T, c *Crew, m model) {
	t.Helper()
	for range 2 { // to ask changes nothing
		shots, modes, ids := c.Shots(), c.Modes(), c.Ids()
		if c.Len() != len(m) || len(shots) != len(m) || len(modes) != len(m) || len(ids) != len(m) {
			t.Fatal(c.Len(), shots, modes, ids)
		}
		for i, x := range m {
			if !one(shots[i], x.Shot()) || modes[i] != x.Mode() || ids[i] != x.Id() {
				t.Fatal(i, shots[i], modes[i], ids[i], x.Shot())
			}
			p, ok := c.Get(x.Id())
			if !ok || p == nil || p.Name() != x.Name() || p.May() != x.May() || !one(p.Shot(), x.Shot()) {
				t.Fatal(i, ok)
			}
		}
	}
}

// made is a crew that may be, and its model.
func made(t *testing.T, l []api.Partition) (*Crew, model) {
	t.Helper()
	c, e := New(l)
	if c == nil || e != api.OK {
		t.Fatal(l, e)
	}
	m := modelled(l)
	is(t, c, m)
	return c, m
}

// acted are acts in any order, some of them of no partition that there is, or of none of the actions.
func acted(next func(n int) int, l []api.Partition) []api.Act {
	var acts []api.Act
	for range next(3 * (len(l) + 1)) {
		a := api.Act{Schedule: next(3), Partition: next(2*len(l)+3) - 2, Action: next(3)}
		if next(8) == 0 {
			a.Action = []int{-1, 3, 256, 1<<32 + 1, math.MinInt, math.MaxInt}[next(6)]
		}
		acts = append(acts, a)
	}
	return acts
}

// does lets one partition of both do one thing.
func does(t *testing.T, c *Crew, m model, next func(n int) int) {
	t.Helper()
	if len(m) == 0 {
		return
	}
	x := m[next(len(m))]
	p, _ := c.Get(x.Id())
	if next(2) == 0 {
		want := next(4)
		if want == 0 && next(4) > 0 {
			want = 3 // seldom to Idle, from which there is no way
		}
		if p.SetMode(want) != x.SetMode(want) {
			t.Fatal(x.Shot(), want)
		}
	} else {
		i, v := next(4), uint32(next(1<<20))
		if p.Write(i, v) != x.Write(i, v) {
			t.Fatal(x.Shot(), i)
		}
	}
}

// changes lets both change to a schedule.
func changes(t *testing.T, c *Crew, m model, acts []api.Act, schedule int) {
	t.Helper()
	given := slices.Clone(acts)
	did := c.Change(acts, schedule)
	if !slices.Equal(acts, given) {
		t.Fatal("changed")
	}
	if want := m.change(given, schedule); !slices.Equal(did, want) {
		t.Fatal(given, schedule, did, want)
	}
}

// crewed is a crew of the partitions 0, 4 and 6, which are Cold, Warm and Normal, with other numbers than at first.
func crewed(t *testing.T) (*Crew, model) {
	t.Helper()
	l := []api.Partition{{Id: 0, Name: "A"}, {Id: 4, Name: "B"}, {Id: 6, Name: "C"}}
	for i := range l {
		l[i].Cells = []api.Cell{{Value: 1}, {Value: 2, Kept: true}}
	}
	c, m := made(t, l)
	for i, wants := range [][]int{{1}, {3, 2}, {3}} {
		p, _ := c.Get(l[i].Id)
		for _, want := range wants {
			p.SetMode(want)
			m[i].SetMode(want)
		}
		for n := range 2 {
			p.Write(n, 50)
			m[i].Write(n, 50)
		}
	}
	is(t, c, m)
	return c, m
}

func TestExample(t *testing.T) { // P22.1, P22.2
	acts := []api.Act{{Schedule: 1, Partition: 0, Action: api.ColdRestart}}
	c, _ := made(t, []api.Partition{{Id: 0}})
	if l := c.Change(acts, 1); !slices.Equal(l, []Did{{0, 2, true}}) {
		t.Error(l)
	}
	if l := c.Change(acts, 2); !slices.Equal(l, []Did{{0, 0, false}}) {
		t.Error(l)
	}
}

func TestNew(t *testing.T) { // P22.1
	next := ruled(2)
	for _, n := range []int{0, 1, 2, api.MaxParts, api.MaxParts + 1, 300} {
		made(t, mixed(next, n))
	}
	made(t, []api.Partition{{Id: math.MinInt}, {Id: -1}, {Id: 0}, {Id: 255}, {Id: 256}, {Id: math.MaxInt}})
}

func TestNewOrder(t *testing.T) { // P22.1: an Id that isn't above the one ahead, wherever it stands
	for _, ids := range [][]int{{0, 0}, {1, 0}, {-1, -1}, {-1, -2}, {math.MaxInt, math.MinInt}, {math.MinInt, math.MinInt}, {1, 2, 2}, {1, 3, 2}, {2, 1, 3}, {2, 2, 3}, {1, 2, 1}, {256, 0}} {
		var l []api.Partition
		for _, id := range ids {
			l = append(l, api.Partition{Id: id})
		}
		if c, e := New(l); c != nil || e != api.ErrOrder {
			t.Error(ids, e)
		}
	}
	for n := range api.MaxParts - 1 {
		l := mixed(ruled(uint64(n)), api.MaxParts)
		l[n+1].Id = l[n].Id
		if c, e := New(l); c != nil || e != api.ErrOrder {
			t.Error(n, e)
		}
	}
}

func TestNone(t *testing.T) { // P22.1: no partitions at all
	for _, l := range [][]api.Partition{nil, {}} {
		c, m := made(t, l)
		if did := c.Change([]api.Act{{Action: api.ColdRestart}}, 0); len(did) != 0 {
			t.Error(did)
		}
		if p, ok := c.Get(0); p != nil || ok {
			t.Error(ok)
		}
		if !Same(c.Shots(), nil) {
			t.Error(c.Shots())
		}
		is(t, c.Copy(), m)
	}
}

func TestGet(t *testing.T) { // P22.1: the partition itself, or none
	c, m := crewed(t)
	for _, id := range []int{math.MinInt, -1, 1, 2, 3, 5, 7, 256, 260, 1 << 32, 1<<32 + 4, math.MaxInt} {
		if p, ok := c.Get(id); p != nil || ok {
			t.Error(id, ok)
		}
	}
	for i, id := range []int{0, 4, 6} {
		p, ok := c.Get(id)
		q, _ := c.Get(id)
		if !ok || p != q || p.Id() != id {
			t.Error(id, ok)
		}
		p.Write(0, 77)
		m[i].Write(0, 77)
		is(t, c, m)
	}
}

func TestChange(t *testing.T) { // P22.1, P22.2: each action, to each partition alone
	for _, id := range []int{0, 4, 6} {
		for _, n := range []int{math.MinInt, -1, 0, 1, 2, 3, 256, 257, 1<<32 + 1, math.MaxInt} {
			c, m := crewed(t)
			acts := []api.Act{{Schedule: 1, Partition: id, Action: n}}
			changes(t, c, m, acts, 2)
			is(t, c, m)
			changes(t, c, m, acts, 1)
			is(t, c, m)
		}
	}
}

func TestChangeTold(t *testing.T) { // P22.1, P22.2: written out
	c, _ := crewed(t)
	idle, _ := c.Get(6)
	idle.SetMode(api.Idle)
	acts := []api.Act{
		{Schedule: 1, Partition: 4, Action: api.ColdRestart},
		{Schedule: 2, Partition: 0, Action: api.WarmRestart},
		{Schedule: 2, Partition: 5, Action: api.ColdRestart},
		{Schedule: 2, Partition: 6, Action: api.ColdRestart},
	}
	if l := c.Change(acts, 2); !slices.Equal(l, []Did{{0, 1, true}, {4, 0, false}, {6, 2, false}}) {
		t.Error(l)
	}
	if l := c.Shots(); !slices.EqualFunc(l, []part.Shot{
		{Id: 0, Mode: api.Warm, Starts: 3, Cause: part.Changed, Cells: []uint32{1, 50}},
		{Id: 4, Mode: api.Warm, Starts: 2, Cause: part.Itself, Cells: []uint32{50, 50}},
		{Id: 6, Mode: api.Idle, Starts: 1, Cause: part.Began, Cells: []uint32{50, 50}},
	}, one) {
		t.Error(l)
	}
	if l := c.Change(acts, 1); !slices.Equal(l, []Did{{0, 0, false}, {4, 2, true}, {6, 0, false}}) {
		t.Error(l)
	}
	if l := c.Shots(); l[0].Starts != 3 || !one(l[1], part.Shot{Id: 4, Mode: api.Cold, Starts: 3, Cause: part.Changed, Cells: []uint32{1, 2}}) {
		t.Error(l)
	}
	if l := c.Modes(); !slices.Equal(l, []int{api.Warm, api.Cold, api.Idle}) {
		t.Error(l)
	}
}

func TestChangeFirstAct(t *testing.T) { // P22.1: of several acts of one schedule and partition the first one, in whatever order they stand
	c, m := crewed(t)
	acts := []api.Act{
		{Schedule: 9, Partition: 6, Action: api.ColdRestart},
		{Schedule: 1, Partition: 4, Action: api.WarmRestart},
		{Schedule: 1, Partition: 0, Action: api.Ignore},
		{Schedule: 1, Partition: 4, Action: api.ColdRestart},
		{Schedule: 1, Partition: 0, Action: api.ColdRestart},
	}
	if l := c.Change(acts, 1); !slices.Equal(l, []Did{{0, 0, false}, {4, 1, true}, {6, 0, false}}) {
		t.Error(l)
	}
	m.change(acts, 1)
	is(t, c, m)
}

func TestChangeWithoutActs(t *testing.T) { // P22.1, P22.2: nothing
	c, m := crewed(t)
	for _, acts := range [][]api.Act{nil, {}} {
		for _, schedule := range []int{math.MinInt, -1, 0, 1, math.MaxInt} {
			if l := c.Change(acts, schedule); !slices.Equal(l, []Did{{0, 0, false}, {4, 0, false}, {6, 0, false}}) {
				t.Error(l)
			}
			is(t, c, m)
		}
	}
}

func TestChangeIdle(t *testing.T) { // P22.2: to one that is Idle nothing is done, whatever it is
	c, m := crewed(t)
	for i, id := range []int{0, 4, 6} {
		p, _ := c.Get(id)
		p.SetMode(api.Idle)
		m[i].SetMode(api.Idle)
	}
	was := c.Shots()
	for _, n := range []int{-1, 0, 1, 2, 3} {
		var acts []api.Act
		for _, id := range []int{0, 4, 6} {
			acts = append(acts, api.Act{Schedule: 1, Partition: id, Action: n})
		}
		if l := c.Change(acts, 1); !slices.Equal(l, []Did{{0, n, false}, {4, n, false}, {6, n, false}}) {
			t.Error(l)
		}
		if !slices.EqualFunc(c.Shots(), was, one) {
			t.Error(n, c.Shots())
		}
	}
	is(t, c, m)
}

func TestAnyCalls(t *testing.T) { // P22.1, P22.2: behind any calls
	next := ruled(7)
	for range 300 {
		l := mixed(next, next(9))
		acts := acted(next, l)
		c, m := made(t, l)
		for range 40 {
			if next(4) == 0 {
				changes(t, c, m, acts, next(4))
			} else {
				does(t, c, m, next)
			}
			is(t, c, m)
		}
	}
}

func TestMany(t *testing.T) { // P22.1: as many partitions and acts as a module may have
	next := ruled(13)
	l := mixed(next, api.MaxParts)
	c, m := made(t, l)
	var acts []api.Act
	for schedule := range api.MaxScheds {
		for _, p := range l {
			acts = append(acts, api.Act{Schedule: schedule, Partition: p.Id, Action: next(3)})
		}
	}
	if len(acts) != api.MaxActs {
		t.Fatal(len(acts))
	}
	for schedule := range api.MaxScheds + 1 {
		for range 9 {
			does(t, c, m, next)
		}
		changes(t, c, m, acts, schedule)
		is(t, c, m)
	}
}

func TestCopy(t *testing.T) { // P22.1: as it is; each goes for itself
	next := ruled(17)
	for range 200 {
		l := mixed(next, next(6))
		acts := acted(next, l)
		c, m := made(t, l)
		for range next(12) {
			does(t, c, m, next)
		}
		d, n := c.Copy(), m.copy()
		if c == d {
			t.Fatal("copy")
		}
		for range 12 {
			is(t, c, m)
			is(t, d, n)
			x, y := c, m
			if next(2) == 0 {
				x, y = d, n
			}
			if next(3) == 0 {
				changes(t, x, y, acts, next(3))
			} else {
				does(t, x, y, next)
			}
		}
	}
}

func TestCopyGets(t *testing.T) { // P22.1: a copy has partitions of its own
	c, _ := crewed(t)
	d := c.Copy()
	for _, id := range c.Ids() {
		p, _ := c.Get(id)
		if q, ok := d.Get(id); !ok || p == q {
			t.Error(id, ok)
		}
	}
	if p, ok := d.Get(5); p != nil || ok {
		t.Error(ok)
	}
}

func TestSame(t *testing.T) { // P22.1: as many, each as the other, in order
	a, b := shot(1, 2, 3, 1, 7), shot(2, 2, 3, 1)
	for i, x := range []struct {
		l, r []part.Shot
		want bool
	}{
		{nil, nil, true},
		{nil, []part.Shot{}, true},
		{nil, []part.Shot{{}}, false},
		{[]part.Shot{a}, []part.Shot{a}, true},
		{[]part.Shot{a}, []part.Shot{shot(1, 2, 3, 1, 7)}, true},
		{[]part.Shot{a}, []part.Shot{shot(1, 2, 3, 1, 8)}, false},
		{[]part.Shot{a}, []part.Shot{shot(1, 2, 3, 1)}, false},
		{[]part.Shot{a}, []part.Shot{shot(0, 2, 3, 1, 7)}, false},
		{[]part.Shot{a}, []part.Shot{shot(1, 0, 3, 1, 7)}, false},
		{[]part.Shot{a}, []part.Shot{shot(1, 2, 0, 1, 7)}, false},
		{[]part.Shot{a}, []part.Shot{shot(1, 2, 3, 0, 7)}, false},
		{[]part.Shot{b}, []part.Shot{{Id: 2, Mode: 2, Starts: 3, Cause: 1, Cells: []uint32{}}}, true},
		{[]part.Shot{a, b}, []part.Shot{a, b}, true},
		{[]part.Shot{a, b}, []part.Shot{b, a}, false},
		{[]part.Shot{a, b}, []part.Shot{a}, false},
		{[]part.Shot{a, b}, []part.Shot{b}, false},
		{[]part.Shot{a, b}, []part.Shot{a, a}, false},
		{[]part.Shot{a, b}, []part.Shot{b, b}, false},
		{[]part.Shot{a, a}, []part.Shot{a}, false},
	} {
		if Same(x.l, x.r) != x.want || Same(x.r, x.l) != x.want {
			t.Error(i, x)
		}
	}
	c, _ := crewed(t)
	d := c.Copy()
	if !Same(c.Shots(), d.Shots()) {
		t.Error("copy")
	}
	p, _ := d.Get(6)
	p.Write(1, 51)
	if Same(c.Shots(), d.Shots()) || !Same(Without(c.Shots(), 6), Without(d.Shots(), 6)) {
		t.Error("written")
	}
}

func TestWithout(t *testing.T) { // P22.1: all of that id, wherever they stand
	a, b, c, d, e := shot(3, 1, 2, 1, 1), shot(1, 1, 2, 1, 2), shot(3, 1, 2, 1, 3), shot(2, 1, 2, 1, 4), shot(3, 1, 2, 1, 5)
	all := []part.Shot{a, b, c, d, e}
	for _, x := range []struct {
		id   int
		want []part.Shot
	}{
		{3, []part.Shot{b, d}},
		{1, []part.Shot{a, c, d, e}},
		{2, []part.Shot{a, b, c, e}},
		{4, all},
		{-1, all},
		{math.MinInt, all},
		{math.MaxInt, all},
		{1<<32 + 3, all},
	} {
		if l := Without(all, x.id); !slices.EqualFunc(l, x.want, one) {
			t.Error(x.id, l)
		}
	}
	for _, l := range [][]part.Shot{nil, {}, {a}, {a, c}, {a, c, e}} {
		if out := Without(l, 3); len(out) != 0 {
			t.Error(l, out)
		}
	}
	if l := Without([]part.Shot{{Id: 1}, {Id: 2, Cells: []uint32{}}}, 3); len(l) != 2 || len(l[0].Cells) != 0 || len(l[1].Cells) != 0 {
		t.Error(l)
	}
}

func TestWithoutShares(t *testing.T) { // P22.1: neither with what was handed in, nor between answers
	room := []part.Shot{{Id: 1, Cells: []uint32{7, 8}[:1]}, {Id: 2, Cells: []uint32{9}}, {Id: 3, Cells: []uint32{5}}}
	given := room[:2]
	a, b := Without(given, 4), Without(given, 4)
	clear(a[0].Cells)
	a[1] = part.Shot{}
	_ = append(a, part.Shot{Id: 99})
	_ = append(a[0].Cells, 99)
	if room[0].Cells[0] != 7 || room[0].Cells[:2][1] != 8 || room[1].Cells[0] != 9 || room[2].Id != 3 {
		t.Error(room)
	}
	if len(b) != 2 || b[0].Cells[0] != 7 || b[1].Id != 2 || b[1].Cells[0] != 9 {
		t.Error(b)
	}
	clear(room[0].Cells)
	clear(room)
	if b[0].Cells[0] != 7 || b[1].Id != 2 {
		t.Error(b)
	}
	l := []part.Shot{{Id: 1}, {Id: 2}, {Id: 3}}
	if Without(l, 1); l[0].Id != 1 || l[1].Id != 2 || l[2].Id != 3 {
		t.Error(l)
	}
}

func TestNothingIsShared(t *testing.T) { // P22.1: neither with what was handed in, nor between answers
	given := mixed(ruled(8), 6)
	l := cloned(given)
	c, m := made(t, l)
	for i := range l {
		clear(l[i].Cells)
	}
	clear(l)
	acts := []api.Act{{Schedule: 1, Partition: given[0].Id, Action: 2}, {Schedule: 1, Partition: given[5].Id, Action: 2}}
	changes(t, c, m, acts, 1)
	is(t, c, m)
	for _, s := range c.Shots() {
		clear(s.Cells)
	}
	clear(c.Shots())
	clear(c.Ids())
	clear(c.Modes())
	_ = append(c.Ids()[:1], 99)
	did := c.Change(acts, 1)
	m.change(acts, 1)
	if c.Change(nil, 1); !did[0].Started || did[0].Id != given[0].Id {
		t.Error(did)
	}
	clear(did)
	is(t, c, m)
	if _, ok := c.Get(given[5].Id); !ok {
		t.Error(c.Ids())
	}
}
