package check

import (
	"errors"
	"math"
	"slices"
	"testing"

	"countwheel/api"
	"countwheel/fault"
	"countwheel/image"
	"countwheel/name"
)

// most is the greatest number of ticks.
const most = 1 << 20

// of is a fault of a section.
func of(section int, k api.Errno, at int) api.Fault {
	return api.Fault{Error: k, Section: section, At: at}
}

// usual is a valid module that has something of everything.
func usual() api.Module {
	return api.Module{
		Epoch: 5,
		First: 7,
		Parts: []api.Partition{
			{Id: 1, Name: "NAV", May: true, Cells: []api.Cell{{Value: 9, Kept: true}, {Value: 5}}},
			{Id: 3, Name: "P_3"},
			{Id: 250, Name: "ABCDEFGHIJKLMNOP", Cells: []api.Cell{{}}},
		},
		Schedules: []api.Schedule{
			{Id: 2, Frame: 10, Windows: []api.Window{{Id: 3, Length: 4}, {Id: 1, Offset: 4, Length: 6}}, Needs: []api.Need{{Id: 1, Period: 10, Budget: 6}, {Id: 3, Period: 5}}},
			{Id: 7, Frame: 1},
			{Id: 9, Frame: 12, Windows: []api.Window{{Id: 250, Offset: 1, Length: 2}, {Id: 1, Offset: 6, Length: 2}, {Id: 250, Offset: 8, Length: 1}}, Needs: []api.Need{{Id: 250, Period: 6, Budget: 1}}},
		},
		Pairs: []api.Pair{{From: 2, To: 7}, {From: 7, To: 2}, {From: 7, To: 9}},
		Acts:  []api.Act{{Schedule: 2, Partition: 1, Action: 1}, {Schedule: 2, Partition: 3, Action: 2}, {Schedule: 9, Partition: 250, Action: 1}},
	}
}

// filled is a module of so many partitions and schedules, with all transitions and all acts that these may have.
func filled(parts, schedules int) api.Module {
	m := api.Module{Epoch: math.MaxUint64}
	for i := range parts {
		m.Parts = append(m.Parts, api.Partition{Id: i, Name: name.Make(i), Cells: make([]api.Cell, i%17)})
	}
	for i := range schedules {
		x := api.Schedule{Id: i, Frame: 256}
		for j := range 256 {
			x.Windows = append(x.Windows, api.Window{Id: j % parts, Offset: j, Length: 1})
		}
		for j := range min(parts, 32) {
			x.Needs = append(x.Needs, api.Need{Id: j, Period: 256, Budget: 256 / parts})
		}
		m.Schedules = append(m.Schedules, x)
	}
	for i := range schedules {
		for j := range schedules {
			if i != j {
				m.Pairs = append(m.Pairs, api.Pair{From: i, To: j})
			}
		}
		for j := range parts {
			m.Acts = append(m.Acts, api.Act{Schedule: i, Partition: j, Action: 1 + (i+j)%2})
		}
	}
	return m
}

// valid are modules of which nothing is wrong.
func valid() []api.Module {
	wide := api.Module{First: 255, Parts: []api.Partition{{Id: 255, Name: "A"}}, Schedules: []api.Schedule{{Id: 255, Frame: most, Windows: []api.Window{{Id: 255, Length: most}}, Needs: []api.Need{{Id: 255, Period: most, Budget: most}}}}}
	narrow := api.Module{Parts: []api.Partition{{Name: "A"}}, Schedules: []api.Schedule{{Frame: 1}}}
	return []api.Module{usual(), wide, narrow, filled(1, 1), filled(1, 2), filled(32, 16), filled(32, 1), filled(7, 16)}
}

// turn does something to a module.
type turn = func(m *api.Module)

// wrong is a thing that is wrong with a module, once it was turned.
type wrong struct {
	turn turn
	want api.Fault
	text string
}

// wrongs are all, in the order in which they are asked.
func wrongs() []wrong {
	return []wrong{
		{func(m *api.Module) { m.First = 77 }, of(1, api.ErrRef, 0), "section 1: reference"},
		{func(m *api.Module) { m.Parts[0].Id = -1 }, of(2, api.ErrRange, 0), "section 2: at 0: range"},
		{func(m *api.Module) { m.Parts[0].Name = "1NAV" }, of(2, api.ErrName, 0), "section 2: at 0: name"},
		{func(m *api.Module) { m.Parts[0].Cells = make([]api.Cell, 17) }, of(2, api.ErrMany, 0), "section 2: at 0: many"},
		{func(m *api.Module) { m.Parts[1].Id = 1 }, of(2, api.ErrOrder, 1), "section 2: at 1: order"},
		{func(m *api.Module) { m.Parts[1].Name = "NAV" }, of(2, api.ErrName, 1), "section 2: at 1: name"},
		{func(m *api.Module) { m.Parts[2].Id = 256 }, of(2, api.ErrRange, 2), "section 2: at 2: range"},
		{func(m *api.Module) { m.Parts[2].Id = 2 }, of(2, api.ErrOrder, 2), "section 2: at 2: order"},
		{func(m *api.Module) { m.Parts[2].Name = "NAV" }, of(2, api.ErrName, 2), "section 2: at 2: name"},
		{func(m *api.Module) { m.Parts = filled(33, 1).Parts }, of(2, api.ErrMany, 0), "section 2: many"},
		{func(m *api.Module) { m.Schedules[0].Frame = 0 }, of(3, api.ErrRange, 0), "section 3: at 0: range"},
		{func(m *api.Module) { m.Schedules[0].Windows = make([]api.Window, 257) }, of(3, api.ErrMany, 0), "section 3: at 0: many"},
		{func(m *api.Module) { m.Schedules[0].Windows[0].Length = most + 1 }, of(3, api.ErrRange, 0), "section 3: at 0: range"},
		{func(m *api.Module) { m.Schedules[0].Windows[0].Id = 4 }, of(3, api.ErrRef, 0), "section 3: at 0: at 0: reference"},
		{func(m *api.Module) { m.Schedules[0].Windows[1].Length = 7 }, of(3, api.ErrWindow, 0), "section 3: at 0: at 1: window"},
		{func(m *api.Module) { m.Schedules[0].Needs[0].Id = 4 }, of(3, api.ErrRef, 0), "section 3: at 0: at 0: reference"},
		{func(m *api.Module) { m.Schedules[0].Needs[1].Id = 1 }, of(3, api.ErrOrder, 0), "section 3: at 0: at 1: order"},
		{func(m *api.Module) { m.Schedules[0].Needs[1].Period = 4 }, of(3, api.ErrPeriod, 0), "section 3: at 0: at 1: period"},
		{func(m *api.Module) { m.Schedules[0].Needs[1].Budget = 1 }, of(3, api.ErrBudget, 0), "section 3: at 0: at 1: budget"},
		{func(m *api.Module) { m.Schedules[0].Id = 9 }, of(3, api.ErrOrder, 1), "section 3: at 1: order"},
		{func(m *api.Module) { m.Schedules[2].Id = 7 }, of(3, api.ErrOrder, 2), "section 3: at 2: order"},
		{func(m *api.Module) { m.Schedules[2].Windows[1].Offset = 0 }, of(3, api.ErrOrder, 2), "section 3: at 2: at 1: order"},
		{func(m *api.Module) { m.Schedules[2].Windows[2].Offset = 7 }, of(3, api.ErrLap, 2), "section 3: at 2: at 2: overlap"},
		{func(m *api.Module) { m.Schedules = filled(1, 17).Schedules }, of(3, api.ErrRef, 0), "section 3: at 0: at 0: reference"},
		{func(m *api.Module) { m.Schedules = bare(17) }, of(3, api.ErrMany, 0), "section 3: many"},
		{func(m *api.Module) { m.Pairs[0].To = 8 }, of(4, api.ErrRef, 0), "section 4: at 0: reference"},
		{func(m *api.Module) { m.Pairs[1].To = 7 }, of(4, api.ErrPair, 1), "section 4: at 1: pair"},
		{func(m *api.Module) { m.Pairs[2].To = 2 }, of(4, api.ErrOrder, 2), "section 4: at 2: order"},
		{func(m *api.Module) { m.Acts[0].Schedule = 3 }, of(5, api.ErrRef, 0), "section 5: at 0: reference"},
		{func(m *api.Module) { m.Acts[0].Partition = 7 }, of(5, api.ErrRef, 0), "section 5: at 0: reference"},
		{func(m *api.Module) { m.Acts[1].Action = 0 }, of(5, api.ErrForm, 1), "section 5: at 1: form"},
		{func(m *api.Module) { m.Acts[1].Action = 3 }, of(5, api.ErrForm, 1), "section 5: at 1: form"},
		{func(m *api.Module) { m.Acts[1].Action = -1 }, of(5, api.ErrForm, 1), "section 5: at 1: form"},
		{func(m *api.Module) { m.Acts[2] = m.Acts[1] }, of(5, api.ErrOrder, 2), "section 5: at 2: order"},
		{func(m *api.Module) { m.Acts[2] = m.Acts[0] }, of(5, api.ErrOrder, 2), "section 5: at 2: order"},
		{func(m *api.Module) { m.Acts[2] = api.Act{Schedule: 2, Partition: 3, Action: 1} }, of(5, api.ErrOrder, 2), "section 5: at 2: order"},
	}
}

// bare are n schedules of a frame of one tick, and nothing in it.
func bare(n int) []api.Schedule {
	l := make([]api.Schedule, n)
	for i := range l {
		l[i] = api.Schedule{Id: i, Frame: 1}
	}
	return l
}

// copyOf is a module made anew.
func copyOf(m api.Module) api.Module {
	m.Parts, m.Schedules = slices.Clone(m.Parts), slices.Clone(m.Schedules)
	m.Pairs, m.Acts = slices.Clone(m.Pairs), slices.Clone(m.Acts)
	for i := range m.Parts {
		m.Parts[i].Cells = slices.Clone(m.Parts[i].Cells)
	}
	for i := range m.Schedules {
		m.Schedules[i].Windows = slices.Clone(m.Schedules[i].Windows)
		m.Schedules[i].Needs = slices.Clone(m.Schedules[i].Needs)
	}
	return m
}

// refused tells whether a module is refused, and stays as it was.
func refused(t *testing.T, m api.Module, want api.Fault, text string) {
	t.Helper()
	given := copyOf(m)
	e := Module(m)
	if fault.Of(e) != want || fault.Text(e) != text || Class(e) != want.Error {
		t.Errorf("%q, not %q", fault.Text(e), text)
	}
	if !image.Same(m, given) {
		t.Error(m, given)
	}
}

func TestExample(t *testing.T) { // P16.1
	m := api.Module{First: 1, Parts: []api.Partition{{Name: "A"}}, Schedules: []api.Schedule{{Frame: 5}}}
	if e := Module(m); fault.Of(e) != of(1, api.ErrRef, 0) {
		t.Error(fault.Text(e))
	}
	m.First = 0
	if e := Module(m); e != nil {
		t.Error(fault.Text(e))
	}
	m = usual()
	m.Schedules[1] = api.Schedule{Id: 7, Frame: 9, Windows: []api.Window{{Id: 1, Length: 2}, {Id: 3, Offset: 2, Length: 2}, {Id: 1, Offset: 3, Length: 1}}}
	refused(t, m, of(3, api.ErrLap, 1), "section 3: at 1: at 2: overlap") // the document's second example
}

func TestValid(t *testing.T) { // P16.1: up to each limit; nothing is changed
	for i, m := range valid() {
		given := copyOf(m)
		if e := Module(m); e != nil {
			t.Error(i, fault.Text(e))
		}
		if !image.Same(m, given) {
			t.Error(i, m)
		}
	}
	full := filled(32, 16)
	if len(full.Pairs) != api.MaxPairs || len(full.Acts) != api.MaxActs {
		t.Error(len(full.Pairs), len(full.Acts))
	}
}

func TestWrong(t *testing.T) { // P16.1: each thing that may be wrong, alone
	for _, w := range wrongs() {
		m := usual()
		w.turn(&m)
		refused(t, m, w.want, w.text)
	}
}

func TestTheFirst(t *testing.T) { // P16.1: of things that are wrong in unlike sections the one in the section ahead
	l := wrongs()
	for i, a := range l {
		for _, b := range l[i+1:] {
			if a.want.Section == b.want.Section {
				continue
			}
			m := usual()
			b.turn(&m)
			a.turn(&m)
			refused(t, m, a.want, a.text)
		}
	}
}

func TestTheFirstOfASection(t *testing.T) { // P16.1: thing by thing, and of one thing in the chapter's order
	for _, w := range []wrong{
		{func(m *api.Module) { m.Parts = nil }, of(2, api.ErrMany, 0), "section 2: many"},
		{func(m *api.Module) { m.Parts = []api.Partition{} }, of(2, api.ErrMany, 0), "section 2: many"},
		{func(m *api.Module) { m.Parts[0].Id, m.Parts[0].Name = -1, "" }, of(2, api.ErrRange, 0), "section 2: at 0: range"},
		{func(m *api.Module) { m.Parts[1].Id, m.Parts[1].Name = 1, "" }, of(2, api.ErrName, 1), "section 2: at 1: name"},
		{func(m *api.Module) { m.Parts[1].Id, m.Parts[1].Name = 1, "NAV" }, of(2, api.ErrOrder, 1), "section 2: at 1: order"},
		{func(m *api.Module) { m.Parts[1].Id, m.Parts[2].Name = 0, "" }, of(2, api.ErrOrder, 1), "section 2: at 1: order"},
		{func(m *api.Module) { m.Parts[1].Name, m.Parts[2].Id = "NAV", 2 }, of(2, api.ErrName, 1), "section 2: at 1: name"},
		{func(m *api.Module) { m.Parts[0], m.Parts[2] = m.Parts[2], m.Parts[0] }, of(2, api.ErrOrder, 1), "section 2: at 1: order"},
		{func(m *api.Module) { m.Parts = filled(40, 1).Parts; m.Parts[33].Name = "P0" }, of(2, api.ErrName, 33), "section 2: at 33: name"},
		{func(m *api.Module) { m.Parts = filled(40, 1).Parts; m.Parts[39].Id = 38 }, of(2, api.ErrOrder, 39), "section 2: at 39: order"},
		{func(m *api.Module) { m.Parts = filled(300, 1).Parts }, of(2, api.ErrRange, 256), "section 2: at 256: range"},
		{func(m *api.Module) { m.Parts = filled(256, 1).Parts }, of(2, api.ErrMany, 0), "section 2: many"},
		{func(m *api.Module) { m.Schedules = nil }, of(1, api.ErrRef, 0), "section 1: reference"},
		{func(m *api.Module) { m.Schedules = nil; m.Parts = nil; m.First = 0 }, of(1, api.ErrRef, 0), "section 1: reference"},
		{func(m *api.Module) { m.Schedules[0].Id = -1 }, of(3, api.ErrRange, 0), "section 3: at 0: range"},
		{func(m *api.Module) { m.Schedules[2].Id = 256 }, of(3, api.ErrRange, 2), "section 3: at 2: range"},
		{func(m *api.Module) { m.Schedules[2].Id, m.Schedules[2].Frame = 7, most+1 }, of(3, api.ErrRange, 2), "section 3: at 2: range"},
		{func(m *api.Module) { m.Schedules[2].Id, m.Schedules[2].Windows[0].Id = 7, 4 }, of(3, api.ErrOrder, 2), "section 3: at 2: order"},
		{func(m *api.Module) { m.Schedules[2].Windows[2].Id, m.Schedules[2].Needs[0].Id = 4, 5 }, of(3, api.ErrRef, 2), "section 3: at 2: at 2: reference"},
		{func(m *api.Module) { m.Schedules[2].Windows[2].Length, m.Schedules[2].Needs[0].Id = 0, 5 }, of(3, api.ErrWindow, 2), "section 3: at 2: at 2: window"},
		{func(m *api.Module) { m.Schedules[0].Needs[1].Budget, m.Schedules[1].Frame = 1, 0 }, of(3, api.ErrBudget, 0), "section 3: at 0: at 1: budget"},
		{func(m *api.Module) { m.Schedules[1].Frame, m.Schedules[2].Windows[0].Id = 0, 5 }, of(3, api.ErrRange, 1), "section 3: at 1: range"},
		{func(m *api.Module) { m.Schedules = bare(20); m.Schedules[17].Frame = 0 }, of(3, api.ErrRange, 17), "section 3: at 17: range"},
		{func(m *api.Module) { m.Schedules = bare(20); m.Schedules[19].Id = 18 }, of(3, api.ErrOrder, 19), "section 3: at 19: order"},
		{func(m *api.Module) { m.Schedules = bare(20); m.Schedules[18].Needs = make([]api.Need, 1) }, of(3, api.ErrRef, 18), "section 3: at 18: at 0: reference"},
		{func(m *api.Module) { m.Schedules = bare(300) }, of(3, api.ErrRange, 256), "section 3: at 256: range"},
		{func(m *api.Module) { m.Schedules = bare(256) }, of(3, api.ErrMany, 0), "section 3: many"},
		{func(m *api.Module) { m.Pairs = make([]api.Pair, 241) }, of(4, api.ErrRef, 0), "section 4: at 0: reference"},
		{func(m *api.Module) { m.Pairs = slices.Repeat(m.Pairs, 100) }, of(4, api.ErrOrder, 3), "section 4: at 3: order"},
		{func(m *api.Module) { m.Acts[0] = api.Act{Schedule: 3, Partition: 1} }, of(5, api.ErrRef, 0), "section 5: at 0: reference"},
		{func(m *api.Module) { m.Acts[0] = api.Act{Schedule: 2, Partition: 2} }, of(5, api.ErrRef, 0), "section 5: at 0: reference"},
		{func(m *api.Module) { m.Acts[1] = api.Act{Schedule: 2, Partition: 1, Action: 3} }, of(5, api.ErrForm, 1), "section 5: at 1: form"},
		{func(m *api.Module) { m.Acts[1] = m.Acts[0]; m.Acts[2].Schedule = 3 }, of(5, api.ErrOrder, 1), "section 5: at 1: order"},
		{func(m *api.Module) { m.Acts[0].Action = 0; m.Acts[1].Schedule = 3 }, of(5, api.ErrForm, 0), "section 5: at 0: form"},
		{func(m *api.Module) { m.Acts = slices.Repeat(m.Acts, 200) }, of(5, api.ErrOrder, 3), "section 5: at 3: order"},
	} {
		m := usual()
		w.turn(&m)
		refused(t, m, w.want, w.text)
	}
}

func TestOdd(t *testing.T) { // P16.1: numbers of any size, each in the place of one of a valid module's
	odd := []int{math.MinInt, -1 << 62, -1 << 32, -1, 1 << 32, 1<<32 + 1, 1 << 62, math.MaxInt}
	places := func(m *api.Module) []*int {
		x := &m.Schedules[2]
		return []*int{
			&m.First, &m.Parts[0].Id, &m.Parts[1].Id, &x.Id, &x.Frame,
			&x.Windows[0].Id, &x.Windows[0].Offset, &x.Windows[0].Length, &x.Windows[1].Offset, &x.Windows[1].Length,
			&x.Needs[0].Id, &x.Needs[0].Period, &x.Needs[0].Budget,
			&m.Pairs[0].From, &m.Pairs[0].To, &m.Pairs[1].From, &m.Pairs[1].To,
			&m.Acts[0].Schedule, &m.Acts[0].Partition, &m.Acts[0].Action, &m.Acts[1].Schedule, &m.Acts[1].Partition,
		}
	}
	sections := []int{1, 2, 2, 3, 3, 3, 3, 3, 3, 3, 3, 3, 3, 4, 4, 4, 4, 5, 5, 5, 5, 5}
	for i, section := range sections {
		for _, n := range odd {
			m := usual()
			*places(&m)[i] = n
			if e := Module(m); fault.Of(e).Section != section {
				t.Error(i, n, fault.Text(e))
			}
		}
	}
	m := usual()
	if len(sections) != len(places(&m)) {
		t.Error(len(sections))
	}
}

func TestIds(t *testing.T) { // P16.1: of any module, in the order in which they stand, in new memory
	m := api.Module{Parts: []api.Partition{{Id: 9}, {Id: -4}, {Id: 9}, {Id: math.MaxInt}}, Schedules: []api.Schedule{{Id: 3, Frame: 8}, {Id: 3}, {Id: math.MinInt}}}
	for range 2 {
		p, s := Parts(m), Scheds(m)
		if !slices.Equal(p, []int{9, -4, 9, math.MaxInt}) || !slices.Equal(s, []int{3, 3, math.MinInt}) {
			t.Error(p, s)
		}
		for i := range p {
			p[i] = 1
		}
		for i := range s {
			s[i] = 1
		}
	}
	if len(Parts(api.Module{})) != 0 || len(Scheds(api.Module{})) != 0 {
		t.Error("none")
	}
	m = usual()
	if p, s := Parts(m), Scheds(m); !slices.Equal(p, []int{1, 3, 250}) || !slices.Equal(s, []int{2, 7, 9}) {
		t.Error(p, s)
	}
}

func TestClass(t *testing.T) { // P16.1: whatever is wrapped around it; of errors of other kinds, too
	if Class(nil) != api.OK {
		t.Error("nil")
	}
	for k := api.ErrArg; k <= api.ErrRange; k++ {
		for _, e := range []error{fault.New(k), fault.In(3, fault.New(k)), fault.At(9, fault.In(1, fault.At(0, fault.New(k)))), errors.Join(fault.At(1, fault.New(k)))} {
			if Class(e) != k {
				t.Error(k, fault.Text(e))
			}
		}
	}
	if Class(errors.New("no class")) != api.ErrArg {
		t.Error("no class")
	}
}

// encoded is a module's bytes.
func encoded(t *testing.T, m api.Module) string {
	t.Helper()
	s, e := image.Encode(m)
	if e != nil {
		t.Fatal(fault.Text(e))
	}
	return s
}

// zero tells whether there is nothing in a module.
func zero(m api.Module) bool { return image.Same(m, api.Module{}) }

func TestLoad(t *testing.T) { // P16.1, P16.2: valid modules, twice, in memory of their own
	for _, m := range valid() {
		s := encoded(t, m)
		a, e := Load(s)
		b, f := Load(s)
		if e != nil || f != nil || !image.Same(a, m) || !image.Same(b, m) {
			t.Error(fault.Text(e), fault.Text(f), a)
		}
		a.Parts[0].Name, a.Schedules[0].Frame = "B", 2
		if !image.Same(b, m) {
			t.Error(b)
		}
	}
}

func TestLoadWrong(t *testing.T) { // P16.1: bytes of a module that isn't valid
	tried := 0
	for _, w := range wrongs() {
		m := usual()
		w.turn(&m)
		s, e := image.Encode(m)
		if e != nil {
			continue // there are no such bytes
		}
		tried++
		got, e := Load(s)
		if !zero(got) || fault.Of(e) != w.want || fault.Text(e) != w.text {
			t.Errorf("%v %q, not %q", got, fault.Text(e), w.text)
		}
	}
	if tried < 12 {
		t.Error(tried)
	}
}

func TestLoadBytes(t *testing.T) { // P16.1: what is wrong with bytes is asked ahead of what they say
	bad := usual()
	bad.First = 77
	s := encoded(t, bad)
	for _, x := range []struct {
		s    string
		want api.Fault
	}{
		{"", of(1, api.ErrShort, 0)},
		{"CWM1", of(1, api.ErrShort, 4)},
		{"CWM2" + s[4:], of(1, api.ErrMagic, 3)},
		{s[:22], of(1, api.ErrShort, 21)},
		{s + "x", of(1, api.ErrLength, 4)},
		{s[:len(s)-1] + "x", of(6, api.ErrSum, len(s)-4)},
		{image.Seal(s + "x"), of(6, api.ErrLength, len(s)-4)},
		{image.Seal(s[:len(s)-1]), of(5, api.ErrShort, len(s)-5)},
		{s, of(1, api.ErrRef, 0)},
	} {
		m, e := Load(x.s)
		if !zero(m) || fault.Of(e) != x.want || Class(e) != x.want.Error {
			t.Errorf("%q: %v, not %v", x.s, fault.Text(e), x.want)
		}
	}
	for i := range len(s) {
		m, e := Load(s[:i])
		if _, want := image.Decode(s[:i]); !zero(m) || e == nil || fault.Text(e) != fault.Text(want) {
			t.Errorf("%q: %v, not %v", s[:i], fault.Text(e), fault.Text(want))
		}
	}
}
