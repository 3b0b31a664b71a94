package kernel

import (
	"slices"
	"testing"

	"countwheel/api"
	"countwheel/check"
	"countwheel/crew"
	"countwheel/fault"
	"countwheel/image"
	"countwheel/part"
)

// usual is a module of three schedules: the partition 3 may, 5 may not; in 1 the ticks are 3 3 5 -, in 2 they are 5 3, in 4 just -.
func usual() api.Module {
	return api.Module{
		Epoch: 100,
		First: 1,
		Parts: []api.Partition{
			{Id: 3, Name: "A", May: true, Cells: []api.Cell{{Value: 7}, {Value: 8, Kept: true}}},
			{Id: 5, Name: "B", Cells: []api.Cell{{Value: 9}}},
		},
		Schedules: []api.Schedule{
			{Id: 1, Frame: 4, Windows: []api.Window{{Id: 3, Length: 2}, {Id: 5, Offset: 2, Length: 1}}},
			{Id: 2, Frame: 2, Windows: []api.Window{{Id: 5, Length: 1}, {Id: 3, Offset: 1, Length: 1}}},
			{Id: 4, Frame: 1},
		},
		Pairs: []api.Pair{{From: 1, To: 2}, {From: 1, To: 4}, {From: 2, To: 1}},
		Acts:  []api.Act{{Schedule: 1, Partition: 3, Action: 2}, {Schedule: 2, Partition: 3, Action: 1}, {Schedule: 2, Partition: 5, Action: 2}},
	}
}

// The steps that need nothing else.
var (
	tick   = api.Step{Kind: api.Tick}
	status = api.Step{Kind: api.GetStatus}
)

// asks is a SetSched.
func asks(id int) api.Step { return api.Step{Kind: api.SetSched, Arg: id} }

// sets is a SetMode.
func sets(mode int) api.Step { return api.Step{Kind: api.SetMode, Arg: mode} }

// reads is a ReadCell.
func reads(i int) api.Step { return api.Step{Kind: api.ReadCell, Arg: i} }

// writes is a WriteCell.
func writes(i int, v uint32) api.Step { return api.Step{Kind: api.WriteCell, Arg: i, Value: v} }

// row is a step and what it is to tell.
type row struct {
	x    api.Step
	want api.Out
}

// goes lets a kernel do steps that are written out.
func goes(t *testing.T, k *Kernel, l []row) {
	t.Helper()
	for i, r := range l {
		if out := k.Do(r.x); out != r.want {
			t.Fatal(i, r.x, out, r.want)
		}
	}
}

// kernel is one of a valid module.
func kernel(t *testing.T, m api.Module) *Kernel {
	t.Helper()
	k, e := New(m)
	if k == nil || e != nil {
		t.Fatal(e)
	}
	return k
}

func TestFirst(t *testing.T) { // P25.1: a kernel that did nothing yet
	k := kernel(t, usual())
	if k.Now() != 100 || k.Halted() || k.Owner() != 3 || k.Offset() != 0 || k.Frames() != 0 || k.Status() != (api.Status{Current: 1, Next: 1}) || len(k.Did()) != 0 {
		t.Error(k.Now(), k.Halted(), k.Owner(), k.Offset(), k.Frames(), k.Status(), k.Did())
	}
	if s := k.Shots(); !same(s, []part.Shot{{Id: 3, Mode: 1, Starts: 1, Cells: []uint32{7, 8}}, {Id: 5, Mode: 1, Starts: 1, Cells: []uint32{9}}}) {
		t.Error(s)
	}
}

func TestTicks(t *testing.T) { // P25.1: of a Tick the Owner is whose tick was emitted
	k := kernel(t, usual())
	for i, want := range []int{3, 3, 5, -1, 3, 3, 5, -1, 3} {
		if k.Owner() != want || k.Offset() != i%4 || k.Now() != uint64(100+i) || k.Frames() != uint64(i/4) {
			t.Error(i, k.Owner(), k.Offset(), k.Now(), k.Frames())
		}
		if out := k.Do(tick); out != (api.Out{Owner: want}) {
			t.Error(i, out)
		}
	}
}

func TestServicesWrittenOut(t *testing.T) { // P25.1
	goes(t, kernel(t, usual()), []row{
		{reads(0), api.Out{Kind: 4, Owner: 3, Value: 7}},
		{reads(1), api.Out{Kind: 4, Owner: 3, Value: 8}},
		{reads(2), api.Out{Kind: 4, Owner: 3, Code: api.InvalidParam}},
		{writes(0, 50), api.Out{Kind: 5, Owner: 3}},
		{writes(1, 60), api.Out{Kind: 5, Owner: 3}},
		{writes(-1, 60), api.Out{Kind: 5, Owner: 3, Code: api.InvalidParam}},
		{reads(0), api.Out{Kind: 4, Owner: 3, Value: 50}},
		{sets(api.Warm), api.Out{Kind: 3, Owner: 3, Code: api.InvalidMode}},
		{sets(api.Normal), api.Out{Kind: 3, Owner: 3}},
		{sets(api.Normal), api.Out{Kind: 3, Owner: 3, Code: api.NoAction}},
		{sets(4), api.Out{Kind: 3, Owner: 3, Code: api.InvalidParam}},
		{sets(api.Warm), api.Out{Kind: 3, Owner: 3}},
		{reads(0), api.Out{Kind: 4, Owner: 3, Value: 7}},
		{reads(1), api.Out{Kind: 4, Owner: 3, Value: 60}},
		{status, api.Out{Kind: 2, Owner: 3, Status: api.Status{Current: 1, Next: 1}}},
		{asks(9), api.Out{Kind: 1, Owner: 3, Code: api.InvalidParam}},
		{asks(1), api.Out{Kind: 1, Owner: 3, Code: api.NoAction}},
		{asks(2), api.Out{Kind: 1, Owner: 3}},
		{status, api.Out{Kind: 2, Owner: 3, Status: api.Status{Current: 1, Next: 2}}},
		{tick, api.Out{Owner: 3}},
		{tick, api.Out{Owner: 3}},
		{reads(0), api.Out{Kind: 4, Owner: 5, Value: 9}}, // each has its own
		{asks(9), api.Out{Kind: 1, Owner: 5, Code: api.InvalidParam}},
		{asks(4), api.Out{Kind: 1, Owner: 5, Code: api.InvalidConfig}},
		{tick, api.Out{Owner: 5}},
		{tick, api.Out{Owner: -1}},
		{status, api.Out{Kind: 2, Owner: 5, Status: api.Status{Last: 104, Current: 2, Next: 2}}},
		{tick, api.Out{Owner: 5}},
		{asks(4), api.Out{Kind: 1, Owner: 3, Code: api.InvalidMode}}, // there is no transition
	})
}

func TestNobody(t *testing.T) { // P25.1: services where nobody owns the tick
	k := kernel(t, usual())
	k.Run([]api.Step{tick, tick, tick})
	for kind, want := range map[int]api.Code{1: api.NotAvailable, 2: api.NotAvailable, 3: api.NotAvailable, 4: api.NotAvailable, 5: api.NotAvailable, 6: api.InvalidParam, -1: api.InvalidParam} {
		for _, arg := range []int{0, 1, 2, 3, 9, -1} {
			if out := k.Do(api.Step{Kind: kind, Arg: arg, Value: 4}); out != (api.Out{Kind: kind, Owner: -1, Code: want}) {
				t.Error(kind, arg, out)
			}
		}
	}
	if k.Now() != 103 || k.Offset() != 3 || k.Owner() != -1 || k.Status() != (api.Status{Current: 1, Next: 1}) {
		t.Error(k.Now(), k.Offset(), k.Owner(), k.Status())
	}
}

func TestIdle(t *testing.T) { // P25.1: an idle partition's windows are its own still, a cold restart does nothing to it
	k := kernel(t, usual())
	goes(t, k, []row{
		{writes(0, 1), api.Out{Kind: 5, Owner: 3}},
		{tick, api.Out{Owner: 3}},
		{asks(2), api.Out{Kind: 1, Owner: 3}},
		{sets(api.Idle), api.Out{Kind: 3, Owner: 3}},
	})
	for kind := 1; kind <= 5; kind++ {
		for _, arg := range []int{0, 1, 2, 3, 9, -1} {
			if out := k.Do(api.Step{Kind: kind, Arg: arg}); out != (api.Out{Kind: kind, Owner: 3, Code: api.InvalidMode}) {
				t.Error(kind, arg, out)
			}
		}
	}
	goes(t, k, []row{
		{api.Step{Kind: 6}, api.Out{Kind: 6, Owner: 3, Code: api.InvalidParam}},
		{tick, api.Out{Owner: 3}}, {tick, api.Out{Owner: 5}}, {tick, api.Out{Owner: -1}},
		{tick, api.Out{Owner: 5}}, {tick, api.Out{Owner: 3}}, // what it asked for while it ran was granted
	})
	if s := k.Shots(); !same(s, []part.Shot{{Id: 3, Starts: 1, Cells: []uint32{1, 8}}, {Id: 5, Mode: 1, Starts: 2, Cause: 2, Cells: []uint32{9}}}) {
		t.Error(s)
	}
	if d := k.Did(); !slices.Equal(d, []crew.Did{{Id: 3, Action: 1}, {Id: 5, Action: 2, Started: true}}) {
		t.Error(d)
	}
}

func TestChangesWrittenOut(t *testing.T) { // P25.1, P25.2: acts at changes, at no other boundary
	k := kernel(t, usual())
	k.Run([]api.Step{sets(3), writes(0, 1), writes(1, 2), asks(2), tick, tick, sets(3), writes(0, 3), tick})
	if len(k.Did()) != 0 || k.Shots()[0].Mode != 3 {
		t.Error(k.Did(), k.Shots())
	}
	k.Do(tick)
	warm := []crew.Did{{Id: 3, Action: 1, Started: true}, {Id: 5, Action: 2, Started: true}}
	shots := []part.Shot{{Id: 3, Mode: 2, Starts: 2, Cause: 2, Cells: []uint32{7, 2}}, {Id: 5, Mode: 1, Starts: 2, Cause: 2, Cells: []uint32{9}}}
	if !slices.Equal(k.Did(), warm) || !same(k.Shots(), shots) || k.Frames() != 1 {
		t.Error(k.Did(), k.Shots(), k.Frames())
	}
	k.Run([]api.Step{tick, tick, tick, tick}) // two frames of the same schedule
	if !slices.Equal(k.Did(), warm) || !same(k.Shots(), shots) || k.Frames() != 3 || k.Status() != (api.Status{Last: 104, Current: 2, Next: 2}) {
		t.Error(k.Did(), k.Shots(), k.Frames(), k.Status())
	}
	k.Run([]api.Step{tick, asks(1), tick})
	if d := k.Did(); !slices.Equal(d, []crew.Did{{Id: 3, Action: 2, Started: true}, {Id: 5}}) {
		t.Error(d)
	}
	shots[0] = part.Shot{Id: 3, Mode: 1, Starts: 3, Cause: 2, Cells: []uint32{7, 8}}
	if !same(k.Shots(), shots) || k.Frames() != 4 || k.Status() != (api.Status{Last: 110, Current: 1, Next: 1}) {
		t.Error(k.Shots(), k.Frames(), k.Status())
	}
	k.Run([]api.Step{asks(4), tick, tick, tick, tick}) // there, no act is told of
	if d := k.Did(); !slices.Equal(d, []crew.Did{{Id: 3}, {Id: 5}}) || !same(k.Shots(), shots) || k.Owner() != -1 {
		t.Error(d, k.Shots(), k.Owner())
	}
}

func TestLastGrant(t *testing.T) { // P25.2: the last one that was granted in a frame counts, what was refused doesn't
	for _, r := range []struct {
		asked []int
		want  int
	}{{nil, 1}, {[]int{2}, 2}, {[]int{2, 4}, 4}, {[]int{4, 2}, 2}, {[]int{4, 2, 4}, 4}, {[]int{2, 9}, 2}, {[]int{4, 1}, 4}, {[]int{9, 1}, 1}, {[]int{2, 2}, 2}} {
		k := kernel(t, usual())
		for _, id := range r.asked {
			k.Do(asks(id))
		}
		k.Run([]api.Step{tick, tick, tick})
		if k.Status().Current != 1 {
			t.Error(r, k.Status())
		}
		k.Do(tick)
		want := api.Status{Current: r.want, Next: r.want}
		if r.want != 1 {
			want.Last = 104
		}
		if k.Status() != want {
			t.Error(r, k.Status())
		}
		// From then on: in all frames behind it, too.
		for range 3 {
			k.Run([]api.Step{tick, tick, tick, tick})
			if k.Status() != want {
				t.Error(r, k.Status())
			}
		}
	}
}

func TestEnd(t *testing.T) { // P25.1: up to the end of the clock, and nothing from there on
	for left := range uint64(6) {
		m := usual()
		m.Epoch = end - left
		k := kernel(t, m)
		owners := []int{3, 3, 5, -1, 3}
		for i := range left {
			if k.Halted() || k.Owner() != owners[i] {
				t.Error(left, i, k.Owner())
			}
			if out := k.Do(tick); out != (api.Out{Owner: owners[i]}) {
				t.Error(left, i, out)
			}
		}
		shots, at, frames := k.Shots(), k.Offset(), k.Frames()
		if at != int(left%4) || frames != left/4 {
			t.Error(left, at, frames)
		}
		for range 3 {
			for kind, want := range []api.Code{2, 2, 2, 2, 2, 2, 3, 3} {
				if out := k.Do(api.Step{Kind: kind, Arg: 1}); out != (api.Out{Kind: kind, Owner: -1, Code: want}) {
					t.Error(left, kind, out)
				}
			}
			if !k.Halted() || k.Now() != end || k.Owner() != -1 || k.Offset() != at || k.Frames() != frames || !same(k.Shots(), shots) || k.Status() != (api.Status{Current: 1, Next: 1}) {
				t.Error(left, k.Halted(), k.Now(), k.Owner(), k.Offset(), k.Frames(), k.Status())
			}
		}
	}
}

func TestChangeAtEnd(t *testing.T) { // P25.2: also at the boundary that the last tick of all makes
	m := usual()
	m.Epoch = end - 4
	k := kernel(t, m)
	k.Run([]api.Step{asks(2), tick, tick, tick, tick})
	if !k.Halted() || k.Owner() != -1 || k.Offset() != 0 || k.Frames() != 1 || k.Status() != (api.Status{Last: end, Current: 2, Next: 2}) {
		t.Error(k.Halted(), k.Owner(), k.Offset(), k.Frames(), k.Status())
	}
	if d := k.Did(); !slices.Equal(d, []crew.Did{{Id: 3, Action: 1, Started: true}, {Id: 5, Action: 2, Started: true}}) {
		t.Error(d)
	}
}

func TestModel(t *testing.T) { // P25.1, P25.2: any steps of any modules, as the model has them
	next := ruled(1)
	codes := map[[2]int]int{}
	changes, halted := 0, 0
	for range 600 {
		k, x := made(t, mixed(t, next))
		for range 150 {
			out := does(t, k, x, step(next))
			codes[[2]int{min(max(out.Kind, -1), 6), int(out.Code)}]++
			is(t, k, x)
		}
		if k.Status().Last > 0 {
			changes++
		}
		if k.Halted() {
			halted++
		}
	}
	for _, c := range [][2]int{{0, 0}, {0, 2}, {1, 0}, {1, 1}, {1, 2}, {1, 3}, {1, 4}, {1, 5}, {2, 0}, {2, 2}, {2, 5}, {3, 0}, {3, 1}, {3, 2}, {3, 3}, {3, 5}, {4, 0}, {4, 2}, {4, 3}, {4, 5}, {5, 0}, {5, 2}, {5, 3}, {5, 5}, {-1, 3}, {6, 3}} {
		if codes[c] < 20 {
			t.Error(c, codes[c])
		}
	}
	if changes < 100 || halted < 50 {
		t.Error(changes, halted)
	}
}

func TestBoundary(t *testing.T) { // P25.2: told apart from the codes that the steps answered
	next := ruled(2)
	changes := 0
	for range 1200 {
		k := kernel(t, mixed(t, next))
		granted := k.Status().Current
		for range 200 {
			x := step(next)
			was, frames := k.Status(), k.Frames()
			out := k.Do(x)
			if x.Kind == api.SetSched && out.Code == api.NoError {
				granted = x.Arg
			}
			now := k.Status()
			if now.Next != granted {
				t.Fatal(x, now, granted)
			}
			if k.Frames() == frames {
				if now.Current != was.Current || now.Last != was.Last {
					t.Fatal(x, was, now)
				}
				continue
			}
			if x.Kind != api.Tick || k.Offset() != 0 || now.Current != granted {
				t.Fatal(x, now, granted)
			}
			if now.Current == was.Current {
				if now.Last != was.Last {
					t.Fatal(x, was, now)
				}
				continue
			}
			changes++
			if now.Last != k.Now() || !slices.Contains(k.Module().Pairs, api.Pair{From: was.Current, To: now.Current}) {
				t.Fatal(x, was, now, k.Now())
			}
		}
	}
	if changes < 300 {
		t.Error(changes)
	}
}

// all is what a kernel tells of itself.
type all struct {
	now, frames   uint64
	halted        bool
	owner, offset int
	status        api.Status
}

// told is that of a kernel.
func told(k *Kernel) all {
	return all{now: k.Now(), frames: k.Frames(), halted: k.Halted(), owner: k.Owner(), offset: k.Offset(), status: k.Status()}
}

func TestRefused(t *testing.T) { // P25.3: nothing is changed, now and whatever comes behind
	next := ruled(3)
	refused := 0
	for range 300 {
		k := kernel(t, mixed(t, next))
		for range 60 {
			x := step(next)
			without := k.Copy()
			was, shots, did := told(k), k.Shots(), k.Did()
			if k.Do(x).Code == api.NoError {
				continue
			}
			refused++
			if told(k) != was || !same(k.Shots(), shots) || !slices.Equal(k.Did(), did) {
				t.Fatal(x, told(k), was)
			}
			for range 10 {
				y := step(next)
				if a, b := k.Do(y), without.Do(y); a != b || told(k) != told(without) || !same(k.Shots(), without.Shots()) {
					t.Fatal(x, y, a, b)
				}
			}
		}
	}
	if refused < 3000 {
		t.Error(refused)
	}
}

func TestCopy(t *testing.T) { // P25.1: a kernel and its copy go each for itself
	next := ruled(4)
	for range 200 {
		k, x := made(t, mixed(t, next))
		for range next(60) {
			does(t, k, x, step(next))
		}
		c, y := k.Copy(), x.copy()
		is(t, c, y)
		for range 80 {
			if next(2) == 0 {
				does(t, k, x, step(next))
			} else {
				does(t, c, y, step(next))
			}
			is(t, k, x)
			is(t, c, y)
		}
		if !image.Same(c.Module(), x.m) {
			t.Fatal(c.Module())
		}
	}
}

func TestRun(t *testing.T) { // P25.1: steps, one behind the other
	next := ruled(5)
	for range 200 {
		m := mixed(t, next)
		k, x := made(t, m)
		for range 4 {
			var l []api.Step
			for range next(40) {
				l = append(l, step(next))
			}
			given := slices.Clone(l)
			outs := k.Run(l)
			if len(outs) != len(l) || !slices.Equal(l, given) {
				t.Fatal(len(outs), len(l))
			}
			for i, a := range given {
				if want := x.do(a); outs[i] != want {
					t.Fatal(i, a, outs[i], want)
				}
			}
			is(t, k, x)
		}
	}
	k := kernel(t, usual())
	if len(k.Run(nil)) != 0 || len(k.Run([]api.Step{})) != 0 || k.Now() != 100 {
		t.Error(k.Now())
	}
}

func TestNewRefuses(t *testing.T) { // P25.1: what isn't a valid module, with its class, its section and its place
	for _, r := range []struct {
		change func(m *api.Module)
		want   string
	}{
		{func(m *api.Module) { m.First = 3 }, "section 1: reference"},
		{func(m *api.Module) { m.Parts[1].Name = "A" }, "section 2: at 1: name"},
		{func(m *api.Module) { m.Parts[1].Id = 3 }, "section 2: at 1: order"},
		{func(m *api.Module) { m.Parts[0].Id = 256 }, "section 2: at 0: range"},
		{func(m *api.Module) { m.Schedules[1].Frame = 0 }, "section 3: at 1: range"},
		{func(m *api.Module) { m.Schedules[2].Id = 2 }, "section 3: at 2: order"},
		{func(m *api.Module) { m.Schedules[0].Windows[1].Offset = 1 }, "section 3: at 0: at 1: overlap"},
		{func(m *api.Module) { m.Schedules[0].Needs = []api.Need{{Id: 3, Period: 2, Budget: 1}} }, "section 3: at 0: at 0: budget"},
		{func(m *api.Module) { m.Pairs[0].To = 1 }, "section 4: at 0: pair"},
		{func(m *api.Module) { m.Acts[2].Action = 3 }, "section 5: at 2: form"},
		{func(m *api.Module) { *m = api.Module{} }, "section 1: reference"},
	} {
		m := usual()
		r.change(&m)
		k, e := New(m)
		if k != nil || fault.Text(e) != r.want || fault.Text(check.Module(m)) != r.want {
			t.Error(r.want, k, e)
		}
	}
}

func TestLoad(t *testing.T) { // P25.1: bytes, whole and not
	next := ruled(6)
	for range 60 {
		m := mixed(t, next)
		s, e := image.Encode(m)
		if e != nil {
			t.Fatal(e)
		}
		bytes := string(s)
		k, e := Load(bytes)
		if k == nil || e != nil || !image.Same(k.Module(), m) {
			t.Fatal(e)
		}
		x := modelled(m)
		is(t, k, x)
		for range 60 {
			does(t, k, x, step(next))
			is(t, k, x)
		}
		for n := range bytes {
			refuses(t, bytes[:n])
		}
		refuses(t, bytes+"\x00")
	}
}

// refuses holds what Load tells of bytes that aren't whole against what layer 16 tells of them.
func refuses(t *testing.T, s string) {
	t.Helper()
	_, want := check.Load(s)
	if k, e := Load(s); k != nil || e == nil || want == nil || fault.Text(e) != fault.Text(want) {
		t.Fatal(k, e, want)
	}
}

func TestLoadSealed(t *testing.T) { // P25.1: bytes that are right, of a module that isn't
	m := usual()
	s, _ := image.Encode(m)
	for i := range s {
		for _, v := range []byte{0, 1, 4, 255} {
			b := []byte(s)
			b[i] = v
			sealed := string(image.Seal(string(b)))
			want, no := check.Load(sealed)
			k, e := Load(sealed)
			if fault.Text(e) != fault.Text(no) || (k == nil) != (e != nil) || k != nil && !image.Same(k.Module(), want) {
				t.Fatal(i, v, e, no)
			}
		}
	}
}

func TestNothingShared(t *testing.T) { // P25.1: what was handed in isn't kept, what is told is new
	m := usual()
	k := kernel(t, m)
	spoil(m)
	if !image.Same(k.Module(), usual()) {
		t.Error(k.Module())
	}
	spoil(k.Module())
	if !image.Same(k.Module(), usual()) {
		t.Error(k.Module())
	}
	goes(t, k, []row{
		{tick, api.Out{Owner: 3}}, {asks(2), api.Out{Kind: 1, Owner: 3}}, {writes(0, 5), api.Out{Kind: 5, Owner: 3}},
		{tick, api.Out{Owner: 3}}, {tick, api.Out{Owner: 5}}, {tick, api.Out{Owner: -1}}, {reads(0), api.Out{Kind: 4, Owner: 5, Value: 9}},
	})
	d, s := k.Did(), k.Shots()
	d[0], s[0].Cells[0], s[1].Id = crew.Did{Id: 9}, 99, 77
	if d := k.Did(); !slices.Equal(d, []crew.Did{{Id: 3, Action: 1, Started: true}, {Id: 5, Action: 2, Started: true}}) {
		t.Error(d)
	}
	if s := k.Shots(); s[0].Cells[0] != 7 || s[1].Id != 5 {
		t.Error(s)
	}
	c := k.Copy()
	spoil(c.Module())
	if !image.Same(k.Module(), usual()) || !image.Same(c.Module(), usual()) {
		t.Error(k.Module())
	}
}

// spoil changes each thing that the lists of a module hold.
func spoil(m api.Module) {
	for i := range m.Parts {
		for j := range m.Parts[i].Cells {
			m.Parts[i].Cells[j] = api.Cell{Value: 1000}
		}
		m.Parts[i] = api.Partition{Id: 200}
	}
	for i := range m.Schedules {
		for j := range m.Schedules[i].Windows {
			m.Schedules[i].Windows[j] = api.Window{Id: 200}
		}
		m.Schedules[i] = api.Schedule{Id: 200}
	}
	clear(m.Pairs)
	clear(m.Acts)
}

func TestMany(t *testing.T) { // P25.1: as much as a module may have
	m := api.Module{}
	for i := range api.MaxParts {
		p := api.Partition{Id: i * 8, Name: "P" + string(rune('A'+i%26)) + string(rune('A'+i/26)), May: true}
		for j := range api.MaxCells {
			p.Cells = append(p.Cells, api.Cell{Value: uint32(j), Kept: j%2 == 0})
		}
		m.Parts = append(m.Parts, p)
	}
	for i := range api.MaxScheds {
		x := api.Schedule{Id: i * 17, Frame: 300 + i}
		for j := range api.MaxWindows {
			x.Windows = append(x.Windows, api.Window{Id: (j + i) % api.MaxParts * 8, Offset: j + i, Length: 1})
		}
		m.Schedules = append(m.Schedules, x)
		for j := range api.MaxScheds {
			if i != j {
				m.Pairs = append(m.Pairs, api.Pair{From: i * 17, To: j * 17})
			}
		}
		for j := range api.MaxParts {
			m.Acts = append(m.Acts, api.Act{Schedule: i * 17, Partition: j * 8, Action: 1 + (i+j)%2})
		}
	}
	next := ruled(7)
	k, x := made(t, m)
	for range 12000 {
		a := tick
		if next(8) == 0 {
			a = api.Step{Kind: 1 + next(5), Arg: next(18) * 17, Value: uint32(next(1000))}
			if a.Kind > 2 {
				a.Arg = 1 + next(16)
			}
		}
		does(t, k, x, a)
	}
	is(t, k, x)
	if k.Frames() < 20 || k.Status().Last == 0 {
		t.Error(k.Frames(), k.Status())
	}
}

func TestLongFrame(t *testing.T) { // P25.1: the longest frame there may be
	m := api.Module{
		Parts: []api.Partition{{Id: 0, Name: "A", May: true}, {Id: 255, Name: "Z"}},
		Schedules: []api.Schedule{
			{Id: 0, Frame: api.MaxFrame, Windows: []api.Window{{Id: 255, Length: 1}, {Id: 0, Offset: api.MaxFrame - 1, Length: 1}}},
			{Id: 255, Frame: 1, Windows: []api.Window{{Id: 255, Length: 1}}},
		},
		Pairs: []api.Pair{{From: 0, To: 255}},
	}
	k := kernel(t, m)
	for i := range api.MaxFrame - 1 {
		want := -1
		if i == 0 {
			want = 255
		}
		if out := k.Do(tick); out != (api.Out{Owner: want}) || k.Frames() != 0 {
			t.Fatal(i, out)
		}
	}
	goes(t, k, []row{
		{asks(255), api.Out{Kind: 1, Owner: 0}},
		{tick, api.Out{Owner: 0}},
		{status, api.Out{Kind: 2, Owner: 255, Status: api.Status{Last: api.MaxFrame, Current: 255, Next: 255}}},
	})
	if k.Frames() != 1 || k.Offset() != 0 {
		t.Error(k.Frames(), k.Offset())
	}
}
