package meter

import (
	"math"
	"slices"
	"testing"

	"countwheel/api"
	"countwheel/check"
	"countwheel/kernel"
	"countwheel/strip"
)

// end is the greatest time.
const end = math.MaxUint64

// odd are numbers that no kind, schedule, mode or cell has.
var odd = []int{math.MinInt, -1 << 33, -256, -2, -1, 6, 7, 256, 257, 1 << 31, 1 << 32, 1<<32 + 1, 1 << 62, math.MaxInt}

// ruled is a row of numbers that a rule makes, each of which is below what it is asked with.
func ruled(x uint64) func(n int) int {
	return func(n int) int {
		x = x*6364136223846793005 + 1442695040888963407
		return int(x>>33) % n
	}
}

// usual is a module of three schedules: the partition 3 may, 5 may not, 9 has no windows; in 1 the ticks are 3 3 5 -, in 2 they are 5 3, in 4 just -.
func usual() api.Module {
	return api.Module{
		Epoch: 100,
		First: 1,
		Parts: []api.Partition{
			{Id: 3, Name: "A", May: true, Cells: []api.Cell{{Value: 7}}},
			{Id: 5, Name: "B"},
			{Id: 9, Name: "C"},
		},
		Schedules: []api.Schedule{
			{Id: 1, Frame: 4, Windows: []api.Window{{Id: 3, Length: 2}, {Id: 5, Offset: 2, Length: 1}}},
			{Id: 2, Frame: 2, Windows: []api.Window{{Id: 5, Length: 1}, {Id: 3, Offset: 1, Length: 1}}},
			{Id: 4, Frame: 1},
		},
		Pairs: []api.Pair{{From: 1, To: 2}, {From: 1, To: 4}, {From: 2, To: 1}},
		Acts:  []api.Act{{Schedule: 1, Partition: 3, Action: 2}, {Schedule: 2, Partition: 3, Action: 1}},
	}
}

// mixed is a valid module.
func mixed(t *testing.T, next func(n int) int) api.Module {
	t.Helper()
	m := api.Module{Epoch: uint64(next(1000))}
	if next(3) == 0 {
		m.Epoch = end - uint64(next(60))
	}
	id := next(3)
	for i := range 1 + next(4) {
		m.Parts = append(m.Parts, api.Partition{Id: id, Name: string(rune('A' + i)), May: next(3) > 0, Cells: make([]api.Cell, next(3))})
		id += 1 + next(5)
	}
	id = next(3)
	for range 1 + next(4) {
		x := api.Schedule{Id: id, Frame: 1 + next(9)}
		for at := next(3); at < x.Frame; at += next(2) * next(3) {
			w := api.Window{Id: m.Parts[next(len(m.Parts))].Id, Offset: at, Length: min(1+next(4), x.Frame-at)}
			x.Windows = append(x.Windows, w)
			at += w.Length
		}
		m.Schedules = append(m.Schedules, x)
		id += 1 + next(3)
	}
	m.First = m.Schedules[next(len(m.Schedules))].Id
	for _, a := range m.Schedules {
		for _, b := range m.Schedules {
			if a.Id != b.Id && next(3) > 0 {
				m.Pairs = append(m.Pairs, api.Pair{From: a.Id, To: b.Id})
			}
		}
	}
	if e := check.Module(m); e != nil {
		t.Fatal(m, e)
	}
	return m
}

// step is any step, most of them of what there may be.
func step(next func(n int) int) api.Step {
	if next(2) == 0 {
		return api.Step{Arg: next(2) * next(9)}
	}
	x := api.Step{Kind: 1 + next(5), Arg: next(4), Value: uint32(next(1000))}
	if next(3) == 0 {
		x.Kind = api.SetSched
	}
	switch {
	case x.Kind == api.SetSched:
		x.Arg = next(9)
	case x.Kind == api.SetMode && x.Arg == api.Idle && next(4) > 0:
		x.Arg = api.Normal // seldom to Idle, from which there is no way
	}
	if next(20) == 0 {
		x.Arg = odd[next(len(odd))]
	}
	if next(15) == 0 {
		x.Kind = odd[next(len(odd))]
	}
	return x
}

// made is a kernel of a valid module.
func made(t *testing.T, m api.Module) *kernel.Kernel {
	t.Helper()
	k, e := kernel.New(m)
	if k == nil || e != nil {
		t.Fatal(m, e)
	}
	return k
}

// seen is one step, as it is seen from outside of a kernel: the step, what it told, and what stood ahead of it and behind it.
type seen struct {
	x                 api.Step
	out               api.Out
	owner             int
	now, then         uint64
	boundary          bool
	current, currents int
}

// watch lets a kernel do a step, and tells what was seen of it.
func watch(k *kernel.Kernel, x api.Step) seen {
	s := seen{x: x, owner: k.Owner(), now: k.Now(), current: k.Status().Current}
	frames := k.Frames()
	s.out = k.Do(x)
	s.then, s.boundary, s.currents = k.Now(), k.Frames() > frames, k.Status().Current
	return s
}

// is holds all that a meter tells against all that was seen, twice: to ask changes nothing.
func is(t *testing.T, m *Meter, parts []api.Partition, first int, l []seen) {
	t.Helper()
	var rows []Row
	for _, p := range parts {
		r := Row{Id: p.Id}
		for _, s := range l {
			if s.owner != p.Id {
				continue
			}
			switch s.x.Kind {
			case 0:
				r.Ticks++
			case 1, 2, 3, 4, 5:
				r.Calls++
				r.Codes[s.out.Code]++
			}
		}
		rows = append(rows, r)
	}
	idle, changes := 0, 0
	order, owners := []int{first}, []int(nil)
	for _, s := range l {
		if s.then > s.now {
			owners = append(owners, s.owner)
			if s.owner == -1 {
				idle++
			}
		}
		if s.boundary {
			order = append(order, s.currents)
			if s.current != s.currents {
				changes++
			}
		}
	}
	for range 2 {
		if !slices.Equal(m.Rows(), rows) {
			t.Fatal(m.Rows(), rows)
		}
		if m.Idle() != idle || m.Frames() != len(order)-1 || m.Changes() != changes || !slices.Equal(m.Order(), order) {
			t.Fatal(m.Idle(), m.Frames(), m.Changes(), m.Order(), idle, changes, order)
		}
		if !strip.Same(m.Strip(), strip.Of(owners)) {
			t.Fatal(m.Strip().Rows(), owners)
		}
	}
}

func TestExample(t *testing.T) { // P29.1
	m := New(made(t, api.Module{Parts: []api.Partition{{Name: "A"}}, Schedules: []api.Schedule{{Frame: 3}}}))
	m.Run(make([]api.Step, 4))
	if m.Idle() != 4 || m.Frames() != 1 || m.Changes() != 0 || !slices.Equal(m.Order(), []int{0, 0}) || !slices.Equal(m.Rows(), []Row{{}}) {
		t.Error(m.Idle(), m.Frames(), m.Changes(), m.Order(), m.Rows())
	}
}

func TestNew(t *testing.T) { // P29.1: nothing is counted yet, also of a kernel that did something
	k := made(t, usual())
	k.Run([]api.Step{{Kind: api.SetSched, Arg: 2}, {}, {}, {}, {}, {}})
	m := New(k)
	if m.Kernel() != k || k.Now() != 105 || k.Frames() != 1 {
		t.Error(k.Now(), k.Frames())
	}
	for range 2 {
		if !slices.Equal(m.Rows(), []Row{{Id: 3}, {Id: 5}, {Id: 9}}) || m.Idle() != 0 || m.Frames() != 0 || m.Changes() != 0 || !slices.Equal(m.Order(), []int{2}) || m.Strip() == nil || m.Strip().Len() != 0 {
			t.Error(m.Rows(), m.Idle(), m.Frames(), m.Changes(), m.Order(), m.Strip())
		}
	}
	m.Run([]api.Step{{}, {}, {}, {}})
	if !slices.Equal(m.Rows(), []Row{{Id: 3, Ticks: 2}, {Id: 5, Ticks: 2}, {Id: 9}}) || m.Frames() != 2 || !slices.Equal(m.Order(), []int{2, 2, 2}) || !slices.Equal(m.Strip().Word(), []int{3, 5, 3, 5}) {
		t.Error(m.Rows(), m.Frames(), m.Order(), m.Strip().Word())
	}
	if m.Kernel() != k || k.Now() != 109 {
		t.Error(k.Now())
	}
}

func TestWrittenOut(t *testing.T) { // P29.1
	m := New(made(t, usual()))
	outs := m.Run([]api.Step{
		{Kind: api.GetStatus}, {Kind: api.SetSched, Arg: 9}, {Kind: api.SetSched, Arg: 1}, {Kind: api.ReadCell}, {Kind: api.ReadCell, Arg: 1}, {}, // of 3
		{Kind: api.SetMode, Arg: api.Warm}, {Kind: api.SetSched, Arg: 2}, {}, // of 3
		{Kind: api.SetSched, Arg: 2}, {Kind: api.WriteCell}, {Kind: api.SetMode, Arg: api.Idle}, {Kind: api.GetStatus}, {Kind: 6}, {Kind: -1}, {}, // of 5
		{Kind: api.GetStatus}, {Kind: api.SetMode, Arg: api.Normal}, {}, // of nobody
		{Kind: api.ReadCell}, {}, // of 5, which is idle
		{}, {}, // of 3, of 5
	})
	if len(outs) != 23 || outs[1] != (api.Out{Kind: 1, Owner: 3, Code: api.InvalidParam}) || outs[18] != (api.Out{Owner: -1}) {
		t.Error(outs)
	}
	want := []Row{
		{Id: 3, Ticks: 3, Calls: 7, Codes: [7]int{api.NoError: 3, api.NoAction: 1, api.InvalidParam: 2, api.InvalidMode: 1}},
		{Id: 5, Ticks: 3, Calls: 5, Codes: [7]int{api.NoError: 1, api.InvalidParam: 1, api.InvalidConfig: 1, api.InvalidMode: 2}},
		{Id: 9},
	}
	if l := m.Rows(); !slices.Equal(l, want) {
		t.Error(l)
	}
	if m.Idle() != 1 || m.Frames() != 2 || m.Changes() != 1 || !slices.Equal(m.Order(), []int{1, 2, 2}) {
		t.Error(m.Idle(), m.Frames(), m.Changes(), m.Order())
	}
	if l := m.Strip().Rows(); !slices.Equal(l, []strip.Row{{Id: 3, Count: 2}, {Id: 5, Count: 1}, {Id: -1, Count: 1}, {Id: 5, Count: 1}, {Id: 3, Count: 1}, {Id: 5, Count: 1}}) {
		t.Error(l)
	}
}

func TestKinds(t *testing.T) { // P29.1: just steps of the Kinds 1 to 5 are calls
	for _, kind := range append(slices.Clone(odd), 0, 1, 2, 3, 4, 5, 8) {
		m := New(made(t, usual()))
		m.Do(api.Step{Kind: kind, Arg: 77})
		calls := 0
		if kind >= 1 && kind <= 5 {
			calls = 1
		}
		r := m.Rows()[0]
		sum := 0
		for _, n := range r.Codes {
			sum += n
		}
		if r.Calls != calls || sum != calls || (r.Ticks == 1) != (kind == 0) || m.Strip().Len() != r.Ticks {
			t.Error(kind, r)
		}
	}
}

func TestHalted(t *testing.T) { // P29.1: ticks of a halted clock aren't emitted, calls there are nobody's
	for left := range uint64(10) {
		x := usual()
		x.Epoch = end - left
		m := New(made(t, x))
		m.Run(make([]api.Step, left))
		rows, idle, frames, order := m.Rows(), m.Idle(), m.Frames(), m.Order()
		for kind := -1; kind < 8; kind++ {
			m.Run([]api.Step{{Kind: kind, Arg: 1}, {Kind: kind}})
		}
		if !slices.Equal(m.Rows(), rows) || m.Idle() != idle || m.Frames() != frames || frames != int(left/4) || !slices.Equal(m.Order(), order) || m.Strip().Len() != int(left) || m.Changes() != 0 {
			t.Error(left, m.Rows(), m.Idle(), m.Frames(), m.Order())
		}
		if rows[0].Ticks+rows[1].Ticks+idle != int(left) || rows[0].Calls != 0 {
			t.Error(left, rows)
		}
	}
}

func TestLastBoundary(t *testing.T) { // P29.1: also the one that the last tick of all makes is counted
	x := usual()
	x.Epoch = end - 4
	m := New(made(t, x))
	m.Run([]api.Step{{Kind: api.SetSched, Arg: 2}, {}, {}, {}, {}, {}, {}})
	if m.Frames() != 1 || m.Changes() != 1 || !slices.Equal(m.Order(), []int{1, 2}) || m.Strip().Len() != 4 || !m.Kernel().Halted() {
		t.Error(m.Frames(), m.Changes(), m.Order(), m.Strip().Len())
	}
}

func TestModel(t *testing.T) { // P29.1: behind any steps, as they are seen from outside
	next := ruled(1)
	codes := [7]int{}
	changes, same := 0, 0
	for range 1000 {
		x := mixed(t, next)
		k := made(t, x)
		for range next(2) * next(40) {
			k.Do(step(next))
		}
		outside := k.Copy()
		first := k.Status().Current
		m := New(k)
		var l []seen
		is(t, m, x.Parts, first, l)
		for range 80 {
			a := step(next)
			s := watch(outside, a)
			l = append(l, s)
			if out := m.Do(a); out != s.out {
				t.Fatal(a, out, s.out)
			}
			if next(8) == 0 {
				is(t, m, x.Parts, first, l)
			}
		}
		is(t, m, x.Parts, first, l)
		for _, r := range m.Rows() {
			for i, n := range r.Codes {
				codes[i] += n
			}
		}
		changes += m.Changes()
		same += m.Frames() - m.Changes()
		if m.Kernel() != k || k.Now() != outside.Now() || k.Status() != outside.Status() {
			t.Fatal(k.Now(), outside.Now())
		}
	}
	for _, c := range []api.Code{api.NoError, api.NoAction, api.InvalidParam, api.InvalidConfig, api.InvalidMode} {
		if codes[c] < 100 {
			t.Error(c, codes[c])
		}
	}
	if changes < 200 || same < 200 {
		t.Error(changes, same)
	}
}

func TestRun(t *testing.T) { // P29.1: steps, one behind the other
	next := ruled(2)
	for range 100 {
		x := mixed(t, next)
		a, b := New(made(t, x)), New(made(t, x))
		for range 4 {
			var l []api.Step
			for range next(30) {
				l = append(l, step(next))
			}
			given := slices.Clone(l)
			outs := a.Run(l)
			if len(outs) != len(l) || !slices.Equal(l, given) {
				t.Fatal(len(outs), len(l))
			}
			for i, s := range given {
				if out := b.Do(s); outs[i] != out {
					t.Fatal(i, s, outs[i], out)
				}
			}
			if !slices.Equal(a.Rows(), b.Rows()) || a.Idle() != b.Idle() || !slices.Equal(a.Order(), b.Order()) || a.Changes() != b.Changes() || !strip.Same(a.Strip(), b.Strip()) {
				t.Fatal(a.Rows(), b.Rows())
			}
		}
		if len(a.Run(nil)) != 0 || len(a.Run([]api.Step{})) != 0 || !slices.Equal(a.Rows(), b.Rows()) {
			t.Fatal(a.Rows(), b.Rows())
		}
	}
}

func TestSum(t *testing.T) { // P29.2
	next := ruled(3)
	for range 500 {
		k := made(t, mixed(t, next))
		for range next(2) * next(30) {
			k.Do(step(next))
		}
		from := k.Now()
		m := New(k)
		for range 60 {
			m.Do(step(next))
			sum := m.Idle()
			for _, r := range m.Rows() {
				sum += r.Ticks
			}
			if uint64(sum) != k.Now()-from || m.Strip().Len() != sum || m.Strip().Count(-1) != m.Idle() {
				t.Fatal(sum, k.Now(), from, m.Strip().Rows())
			}
			for _, r := range m.Rows() {
				if m.Strip().Count(r.Id) != r.Ticks {
					t.Fatal(r, m.Strip().Rows())
				}
			}
		}
	}
}

func TestTwo(t *testing.T) { // P29.1: meters of two kernels count each for itself
	a, b := New(made(t, usual())), New(made(t, usual()))
	a.Run([]api.Step{{Kind: api.GetStatus}, {}, {}, {}, {}, {}})
	if !slices.Equal(b.Rows(), []Row{{Id: 3}, {Id: 5}, {Id: 9}}) || b.Idle() != 0 || b.Frames() != 0 || b.Strip().Len() != 0 || a.Strip().Len() != 5 {
		t.Error(b.Rows(), b.Idle(), b.Frames())
	}
}

func TestNothingShared(t *testing.T) { // P29.1: what is told is new
	m := New(made(t, usual()))
	m.Run([]api.Step{{Kind: api.GetStatus}, {}, {}, {}, {}, {}})
	for range 3 {
		rows, order, ticks := m.Rows(), m.Order(), m.Strip()
		if !slices.Equal(rows, []Row{{Id: 3, Ticks: 3, Calls: 1, Codes: [7]int{1}}, {Id: 5, Ticks: 1}, {Id: 9}}) || !slices.Equal(order, []int{1, 1}) || !slices.Equal(ticks.Word(), []int{3, 3, 5, -1, 3}) {
			t.Error(rows, order, ticks.Word())
		}
		clear(rows)
		clear(order)
		_ = append(order[:1], 9)
		ticks.Add(3, 5)
		ticks.Add(8, 1)
	}
	ticks, order, rows := m.Strip(), m.Order(), m.Rows()
	m.Run([]api.Step{{}, {}, {}, {}})
	if ticks.Len() != 5 || len(order) != 2 || rows[0].Ticks != 3 || !slices.Equal(m.Strip().Word(), []int{3, 3, 5, -1, 3, 3, 5, -1, 3}) || !slices.Equal(m.Order(), []int{1, 1, 1}) {
		t.Error(ticks.Len(), order, rows, m.Strip().Word(), m.Order())
	}
}

func TestMany(t *testing.T) { // P29.1: many steps end soon
	x := usual()
	x.Pairs = append(x.Pairs, api.Pair{From: 4, To: 1})
	m := New(made(t, x))
	for i := range 200000 {
		m.Do(api.Step{})
		if i%7 == 0 {
			m.Do(api.Step{Kind: api.SetSched, Arg: 1 + i/7%2})
		}
	}
	n := m.Idle()
	for _, r := range m.Rows() {
		n += r.Ticks
	}
	if n != 200000 || m.Strip().Len() != n || len(m.Order()) != m.Frames()+1 || m.Changes() < 1000 {
		t.Error(n, m.Frames(), m.Changes())
	}
}
