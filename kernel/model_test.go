package kernel

import (
	"math"
	"slices"
	"testing"

	"countwheel/api"
	"countwheel/check"
	"countwheel/crew"
	"countwheel/part"
)

// ruled is a row of numbers that a rule makes, each of which is below what it is asked with.
func ruled(x uint64) func(n int) int {
	return func(n int) int {
		x = x*6364136223846793005 + 1442695040888963407
		return int(x>>33) % n
	}
}

// end is the greatest time.
const end = math.MaxUint64

// odd are numbers that no kind, schedule, mode or cell has.
var odd = []int{math.MinInt, -1 << 33, -256, -2, -1, 256, 257, 1 << 31, 1 << 32, 1<<32 + 1, 1 << 62, math.MaxInt}

// state is a partition of the model.
type state struct {
	part                api.Partition
	mode, starts, cause int
	cells               []uint32
}

// model is a kernel that looks all up in its module, tick by tick.
type model struct {
	m      api.Module
	now    uint64
	runs   int // which schedule
	tick   int
	due    int
	last   uint64
	frames uint64
	states []state
	did    []crew.Did
}

// modelled is the model of a module.
func modelled(m api.Module) *model {
	x := &model{m: m, now: m.Epoch, runs: m.First, due: m.First}
	for _, p := range m.Parts {
		s := state{part: p, mode: 1, starts: 1}
		for _, c := range p.Cells {
			s.cells = append(s.cells, c.Value)
		}
		x.states = append(x.states, s)
	}
	return x
}

// copy is a model of its own.
func (x *model) copy() *model {
	y := *x
	y.states = slices.Clone(x.states)
	for i := range y.states {
		y.states[i].cells = slices.Clone(x.states[i].cells)
	}
	y.did = slices.Clone(x.did)
	return &y
}

// schedule is the one of an id.
func (x *model) schedule(id int) (api.Schedule, bool) {
	for _, s := range x.m.Schedules {
		if s.Id == id {
			return s, true
		}
	}
	return api.Schedule{}, false
}

// owner is whose the tick is.
func (x *model) owner() int {
	if x.now == end {
		return -1
	}
	s, _ := x.schedule(x.runs)
	for _, w := range s.Windows {
		if w.Offset <= x.tick && x.tick < w.Offset+w.Length {
			return w.Id
		}
	}
	return -1
}

// start lets a partition start.
func (s *state) start(mode, cause int) {
	s.mode = mode
	s.starts++
	s.cause = cause
	for i, c := range s.part.Cells {
		if mode == 1 || !c.Kept {
			s.cells[i] = c.Value
		}
	}
}

// ticks is a Tick.
func (x *model) ticks() api.Out {
	if x.now == end {
		return api.Out{Owner: -1, Code: 2}
	}
	out := api.Out{Owner: x.owner()}
	x.now++
	x.tick++
	s, _ := x.schedule(x.runs)
	if x.tick < s.Frame {
		return out
	}
	x.tick = 0
	x.frames++
	if x.due != x.runs {
		x.runs = x.due
		x.last = x.now
		x.change()
	}
	return out
}

// change does what the schedule that runs says.
func (x *model) change() {
	x.did = nil
	for i := range x.states {
		s := &x.states[i]
		d := crew.Did{Id: s.part.Id}
		for _, a := range x.m.Acts {
			if a.Schedule == x.runs && a.Partition == s.part.Id {
				d.Action = a.Action
			}
		}
		if d.Action != 0 && s.mode != 0 {
			d.Started = true
			s.start(3-d.Action, 2) // a warm restart, 1, makes it Warm, 2, and the other way round
		}
		x.did = append(x.did, d)
	}
}

// do is Do of the model.
func (x *model) do(a api.Step) api.Out {
	if a.Kind == 0 {
		return x.ticks()
	}
	out := api.Out{Kind: a.Kind, Owner: x.owner()}
	if a.Kind < 0 || a.Kind > 5 {
		out.Code = 3
		return out
	}
	i := slices.IndexFunc(x.states, func(s state) bool { return s.part.Id == out.Owner })
	if i < 0 {
		out.Code = 2
		return out
	}
	s := &x.states[i]
	if s.mode == 0 {
		out.Code = 5
		return out
	}
	switch a.Kind {
	case 1:
		out.Code = x.ask(s.part, a.Arg)
	case 2:
		out.Status = x.status()
	case 3:
		out.Code = s.set(a.Arg)
	default:
		if a.Arg < 0 || a.Arg >= len(s.cells) {
			out.Code = 3
		} else if a.Kind == 4 {
			out.Value = s.cells[a.Arg]
		} else {
			s.cells[a.Arg] = a.Value
		}
	}
	return out
}

// ask is SetSched by a partition.
func (x *model) ask(p api.Partition, id int) api.Code {
	if _, ok := x.schedule(id); !ok {
		return 3
	}
	if !p.May {
		return 4
	}
	if id == x.runs {
		return 1
	}
	if !slices.Contains(x.m.Pairs, api.Pair{From: x.runs, To: id}) {
		return 5
	}
	x.due = id
	return 0
}

// set is SetMode of a partition that runs.
func (s *state) set(want int) api.Code {
	switch {
	case want < 0 || want > 3:
		return 3
	case want == 3 && s.mode == 3:
		return 1
	case want == 2 && s.mode == 1:
		return 5
	case want == 1 || want == 2:
		s.start(want, 1)
	}
	s.mode = want
	return 0
}

// status is Status of the model.
func (x *model) status() api.Status {
	return api.Status{Last: x.last, Current: x.runs, Next: x.due}
}

// shots are Shots of the model.
func (x *model) shots() []part.Shot {
	var l []part.Shot
	for _, s := range x.states {
		l = append(l, part.Shot{Id: s.part.Id, Mode: s.mode, Starts: s.starts, Cause: s.cause, Cells: slices.Clone(s.cells)})
	}
	return l
}

// is holds all that a kernel tells against the model, twice: to ask changes nothing.
func is(t *testing.T, k *Kernel, x *model) {
	t.Helper()
	for range 2 {
		if k.Now() != x.now || k.Halted() != (x.now == end) || k.Owner() != x.owner() || k.Offset() != x.tick || k.Frames() != x.frames {
			t.Fatal(k.Now(), k.Halted(), k.Owner(), k.Offset(), k.Frames(), x.now, x.owner(), x.tick, x.frames)
		}
		if k.Status() != x.status() {
			t.Fatal(k.Status(), x.status())
		}
		if s := k.Shots(); !same(s, x.shots()) {
			t.Fatal(s, x.shots())
		}
		if d := k.Did(); !slices.Equal(d, x.did) {
			t.Fatal(d, x.did)
		}
	}
}

// same tells whether rows of shots are one, field by field.
func same(a, b []part.Shot) bool {
	return slices.EqualFunc(a, b, func(a, b part.Shot) bool {
		return [4]int{a.Id, a.Mode, a.Starts, a.Cause} == [4]int{b.Id, b.Mode, b.Starts, b.Cause} && slices.Equal(a.Cells, b.Cells)
	})
}

// mixed is a valid module.
func mixed(t *testing.T, next func(n int) int) api.Module {
	t.Helper()
	m := api.Module{Epoch: uint64(next(1000))}
	if next(3) == 0 {
		m.Epoch = end - uint64(next(60))
	}
	id := next(3)
	for i := range 1 + next(5) {
		p := api.Partition{Id: id, Name: string(rune('A' + i)), May: next(3) > 0}
		for range next(4) {
			p.Cells = append(p.Cells, api.Cell{Value: uint32(next(100)), Kept: next(2) == 0})
		}
		m.Parts = append(m.Parts, p)
		id += 1 + next(5)
	}
	id = next(3)
	for range 1 + next(5) {
		m.Schedules = append(m.Schedules, framed(next, id, m.Parts))
		id += 1 + next(3)
	}
	m.First = m.Schedules[next(len(m.Schedules))].Id
	for _, a := range m.Schedules {
		for _, b := range m.Schedules {
			if a.Id != b.Id && next(3) > 0 {
				m.Pairs = append(m.Pairs, api.Pair{From: a.Id, To: b.Id})
			}
		}
		for _, p := range m.Parts {
			if n := next(4); n == 1 || n == 2 {
				m.Acts = append(m.Acts, api.Act{Schedule: a.Id, Partition: p.Id, Action: n})
			}
		}
	}
	if e := check.Module(m); e != nil {
		t.Fatal(m, e)
	}
	return m
}

// framed is a schedule of an id, with windows of partitions, some of which have several, or none.
func framed(next func(n int) int, id int, l []api.Partition) api.Schedule {
	x := api.Schedule{Id: id, Frame: 1 + next(12)}
	at := next(3)
	for {
		w := api.Window{Id: l[next(len(l))].Id, Offset: at, Length: 1 + next(4)}
		at += w.Length + next(2)*next(3)
		if w.Offset+w.Length > x.Frame {
			return x
		}
		x.Windows = append(x.Windows, w)
	}
}

// step is any step, most of them of what there may be.
func step(next func(n int) int) api.Step {
	if next(3) == 0 {
		return api.Step{Arg: next(2) * next(9), Value: uint32(next(2) * next(9))}
	}
	x := api.Step{Kind: 1 + next(5), Arg: next(4), Value: uint32(next(1000))}
	switch {
	case x.Kind == 1:
		x.Arg = next(12)
	case x.Kind == 3 && x.Arg == 0 && next(4) > 0:
		x.Arg = 3 // seldom to Idle, from which there is no way
	}
	if next(20) == 0 {
		x.Arg = odd[next(len(odd))]
	}
	if next(20) == 0 {
		x.Kind = odd[next(len(odd))]
	}
	return x
}

// made is a kernel of a valid module, and its model.
func made(t *testing.T, m api.Module) (*Kernel, *model) {
	t.Helper()
	k, e := New(m)
	if k == nil || e != nil {
		t.Fatal(m, e)
	}
	x := modelled(m)
	is(t, k, x)
	return k, x
}

// does lets both do a step.
func does(t *testing.T, k *Kernel, x *model, a api.Step) api.Out {
	t.Helper()
	out := k.Do(a)
	if want := x.do(a); out != want {
		t.Fatal(a, out, want)
	}
	return out
}
