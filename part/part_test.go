package part

import (
	"math"
	"slices"
	"testing"

	"countwheel/api"
)

// nones are numbers of which none is a mode, an action, or a cell.
var nones = []int{math.MinInt, math.MinInt + 1, -1 << 32, -256, -2, -1, 256, 259, 1 << 31, 1 << 32, 1<<32 + 1, 1<<32 + 3, math.MaxInt - 1, math.MaxInt}

// numbers are modes and actions, and others.
func numbers() []int { return append([]int{0, 1, 2, 3, 4, 5}, nones...) }

// ruled is a row of numbers that a rule makes, each of which is below what it is asked with.
func ruled(x uint64) func(n int) int {
	return func(n int) int {
		x = x*6364136223846793005 + 1442695040888963407
		return int(x>>33) % n
	}
}

// mixed are n cells, some of them kept.
func mixed(next func(n int) int, n int) []api.Cell {
	l := make([]api.Cell, n)
	for i := range l {
		l[i] = api.Cell{Value: uint32(next(1 << 20)), Kept: next(2) == 0}
	}
	return l
}

// model is a partition that goes by the chapters' words.
type model struct {
	api.Partition
	now                 []uint32
	mode, starts, cause int
}

// modelled is a model that was loaded.
func modelled(p api.Partition) *model {
	m := &model{Partition: p, mode: 1, starts: 1}
	m.Cells = slices.Clone(p.Cells)
	for _, c := range p.Cells {
		m.now = append(m.now, c.Value)
	}
	return m
}

// copy is a model of its own.
func (m *model) copy() *model {
	n := *m
	n.now = slices.Clone(m.now)
	return &n
}

// start starts the model, warm or cold.
func (m *model) start(mode, cause int) {
	for i, c := range m.Cells {
		if mode == 1 || !c.Kept {
			m.now[i] = c.Value
		}
	}
	m.mode, m.cause = mode, cause
	m.starts++
}

// codes are what a partition in each mode is told that asks for each mode.
func codes() [4][4]api.Code {
	return [4][4]api.Code{
		{api.InvalidMode, api.InvalidMode, api.InvalidMode, api.InvalidMode},
		{api.NoError, api.NoError, api.InvalidMode, api.NoError},
		{api.NoError, api.NoError, api.NoError, api.NoError},
		{api.NoError, api.NoError, api.NoError, api.NoAction},
	}
}

// set is SetMode of the model.
func (m *model) set(want int) api.Code {
	if want < 0 || want > 3 {
		return api.InvalidParam
	}
	k := codes()[m.mode][want]
	switch {
	case k != api.NoError:
	case want == 1, want == 2:
		m.start(want, 1)
	default:
		m.mode = want
	}
	return k
}

// act is Act of the model.
func (m *model) act(action int) bool {
	if m.mode == 0 || action != 1 && action != 2 {
		return false
	}
	m.start(3-action, 2) // a warm restart (1) makes it Warm (2), a cold one (2) Cold (1)
	return true
}

// read is Read of the model.
func (m *model) read(i int) (uint32, api.Code) {
	switch {
	case m.mode == 0:
		return 0, api.InvalidMode
	case i < 0 || i >= len(m.now):
		return 0, api.InvalidParam
	}
	return m.now[i], api.NoError
}

// write is Write of the model.
func (m *model) write(i int, v uint32) api.Code {
	_, k := m.read(i)
	if k == api.NoError {
		m.now[i] = v
	}
	return k
}

// shot is Shot of the model.
func (m *model) shot() Shot {
	return Shot{Id: m.Id, Mode: m.mode, Starts: m.starts, Cause: m.cause, Cells: m.now}
}

// one tells whether shots are one, field by field.
func one(a, b Shot) bool {
	return [4]int{a.Id, a.Mode, a.Starts, a.Cause} == [4]int{b.Id, b.Mode, b.Starts, b.Cause} && slices.Equal(a.Cells, b.Cells)
}

// is holds all that a partition tells against the model.
func is(t *testing.T, x *Part, m *model) {
	t.Helper()
	for range 2 { // to ask changes nothing
		if x.Id() != m.Id || x.Name() != m.Name || x.May() != m.May {
			t.Fatal(*m, x.Id(), x.Name(), x.May())
		}
		if x.Mode() != m.mode || x.Starts() != m.starts || x.Cause() != m.cause {
			t.Fatal(*m, x.Mode(), x.Starts(), x.Cause())
		}
		if s := x.Shot(); !one(s, m.shot()) {
			t.Fatal(*m, s)
		}
		for i := -1; i < len(m.now)+2; i++ {
			want, code := m.read(i)
			if v, k := x.Read(i); v != want || k != code {
				t.Fatal(*m, i, v, k)
			}
		}
	}
}

// pair is a partition that was loaded, and its model, brought to a mode, with numbers in its cells.
func pair(t *testing.T, p api.Partition, mode int) (*Part, *model) {
	t.Helper()
	x, m := New(p), modelled(p)
	is(t, x, m)
	for _, want := range [4][]int{{0}, {1}, {3, 2}, {3}}[mode] {
		for i := range p.Cells { // ahead of the last one, so that one that is Idle has them, too
			if x.Write(i, uint32(i)+100) != m.write(i, uint32(i)+100) {
				t.Fatal(p, i)
			}
		}
		if x.SetMode(want) != m.set(want) {
			t.Fatal(p, want)
		}
	}
	for i := range p.Cells {
		if x.Write(i, uint32(i)+200) != m.write(i, uint32(i)+200) {
			t.Fatal(p, i)
		}
	}
	if x.Mode() != mode {
		t.Fatal(mode, x.Mode())
	}
	is(t, x, m)
	return x, m
}

// does lets both do one thing, and holds what they tell against each other.
func does(t *testing.T, x *Part, m *model, next func(n int) int) {
	t.Helper()
	n := next(4)
	if next(4) == 0 {
		n = numbers()[next(len(numbers()))]
	}
	switch next(8) {
	case 0, 1, 2:
		if n == 0 && next(6) > 0 {
			n = 3 // seldom to Idle, from which there is no way
		}
		if k, want := x.SetMode(n), m.set(n); k != want {
			t.Fatal(*m, n, k, want)
		}
	case 3:
		if started, want := x.Act(n), m.act(n); started != want {
			t.Fatal(*m, n, started, want)
		}
	default:
		i, v := next(len(m.now)+1), uint32(next(1<<20))
		if next(6) == 0 {
			i = nones[next(len(nones))]
		}
		if k, want := x.Write(i, v), m.write(i, v); k != want {
			t.Fatal(*m, i, k, want)
		}
	}
	is(t, x, m)
}

// nav is a partition of three cells.
func nav() api.Partition {
	return api.Partition{Id: 3, Name: "NAV", May: true, Cells: []api.Cell{{Value: 5}, {Value: 6, Kept: true}, {Value: math.MaxUint32}}}
}

func TestExample(t *testing.T) { // P21.1
	x := New(api.Partition{Cells: []api.Cell{{Value: 5}}})
	if x.Write(0, 9) != api.NoError || x.SetMode(api.Normal) != api.NoError || x.SetMode(api.Cold) != api.NoError {
		t.Error(x.Shot())
	}
	if v, k := x.Read(0); v != 5 || k != api.NoError {
		t.Error(v, k)
	}
}

func TestCauses(t *testing.T) { // P21.1
	if Began != 0 || Itself != 1 || Changed != 2 {
		t.Error(Began, Itself, Changed)
	}
}

func TestNew(t *testing.T) { // P21.1: whatever is loaded, also what no configuration has
	next := ruled(1)
	for _, id := range []int{math.MinInt, -1, 0, 1, 255, 256, math.MaxInt} {
		for _, name := range []string{"", "A", "NAV", "1", "a name of no form\xff\x00"} {
			for _, n := range []int{0, 1, api.MaxCells, api.MaxCells + 1, 300} {
				for _, may := range []bool{false, true} {
					p := api.Partition{Id: id, Name: name, May: may, Cells: mixed(next, n)}
					is(t, New(p), modelled(p))
				}
			}
		}
	}
}

func TestAtFirst(t *testing.T) { // P21.1: Cold, fresh, once, as the module began
	x := New(nav())
	if s := x.Shot(); !one(s, Shot{Id: 3, Mode: api.Cold, Starts: 1, Cause: 0, Cells: []uint32{5, 6, math.MaxUint32}}) {
		t.Error(s)
	}
	if x.Id() != 3 || x.Name() != "NAV" || !x.May() || x.Mode() != api.Cold || x.Starts() != 1 || x.Cause() != Began {
		t.Error(x)
	}
}

func TestSetMode(t *testing.T) { // P21.1: from each mode, by any number
	for now := range 4 {
		for _, want := range numbers() {
			x, m := pair(t, nav(), now)
			if k, code := x.SetMode(want), m.set(want); k != code {
				t.Error(now, want, k, code)
			}
			is(t, x, m)
		}
	}
}

func TestSetModeStarts(t *testing.T) { // P21.1: written out
	for _, c := range []struct {
		now, want int
		code      api.Code
		shot      Shot
	}{
		{1, 0, api.NoError, Shot{3, 0, 1, Began, []uint32{50, 60, 70}}},
		{1, 1, api.NoError, Shot{3, 1, 2, Itself, []uint32{5, 6, math.MaxUint32}}},
		{1, 2, api.InvalidMode, Shot{3, 1, 1, Began, []uint32{50, 60, 70}}},
		{1, 3, api.NoError, Shot{3, 3, 1, Began, []uint32{50, 60, 70}}},
		{1, 4, api.InvalidParam, Shot{3, 1, 1, Began, []uint32{50, 60, 70}}},
		{3, 0, api.NoError, Shot{3, 0, 1, Began, []uint32{50, 60, 70}}},
		{3, 1, api.NoError, Shot{3, 1, 2, Itself, []uint32{5, 6, math.MaxUint32}}},
		{3, 2, api.NoError, Shot{3, 2, 2, Itself, []uint32{5, 60, math.MaxUint32}}},
		{3, 3, api.NoAction, Shot{3, 3, 1, Began, []uint32{50, 60, 70}}},
		{3, -1, api.InvalidParam, Shot{3, 3, 1, Began, []uint32{50, 60, 70}}},
	} {
		x := New(nav())
		if c.now == api.Normal {
			x.SetMode(api.Normal)
		}
		for i, v := range []uint32{50, 60, 70} {
			x.Write(i, v)
		}
		if k := x.SetMode(c.want); k != c.code {
			t.Error(c, k)
		}
		if s := x.Shot(); !one(s, c.shot) {
			t.Error(c, s)
		}
	}
}

func TestAct(t *testing.T) { // P21.1: in each mode, by any number
	for now := range 4 {
		for _, action := range numbers() {
			x, m := pair(t, nav(), now)
			started := x.Act(action)
			if want := now != api.Idle && (action == api.WarmRestart || action == api.ColdRestart); started != want {
				t.Error(now, action, started)
			}
			if m.act(action) != started {
				t.Error(now, action, started)
			}
			is(t, x, m)
		}
	}
}

func TestActStarts(t *testing.T) { // P21.1: written out; also of one that is Cold, which may not ask for that itself
	for _, c := range []struct {
		now, action int
		shot        Shot
	}{
		{1, api.WarmRestart, Shot{3, 2, 2, Changed, []uint32{5, 60, math.MaxUint32}}},
		{1, api.ColdRestart, Shot{3, 1, 2, Changed, []uint32{5, 6, math.MaxUint32}}},
		{3, api.WarmRestart, Shot{3, 2, 2, Changed, []uint32{5, 60, math.MaxUint32}}},
		{3, api.ColdRestart, Shot{3, 1, 2, Changed, []uint32{5, 6, math.MaxUint32}}},
		{3, api.Ignore, Shot{3, 3, 1, Began, []uint32{50, 60, 70}}},
		{3, 3, Shot{3, 3, 1, Began, []uint32{50, 60, 70}}},
		{0, api.ColdRestart, Shot{3, 0, 1, Began, []uint32{50, 60, 70}}},
	} {
		x := New(nav())
		for i, v := range []uint32{50, 60, 70} {
			x.Write(i, v)
		}
		if c.now != api.Cold {
			x.SetMode(c.now)
		}
		if x.Act(c.action) != (c.shot.Starts == 2) {
			t.Error(c)
		}
		if s := x.Shot(); !one(s, c.shot) {
			t.Error(c, s)
		}
	}
}

func TestCauseStays(t *testing.T) { // P21.1: what doesn't start it leaves why it did last
	x := New(nav())
	for i, c := range []struct {
		do    func()
		cause int
	}{
		{func() { x.SetMode(api.Normal) }, Began},
		{func() { x.Act(api.WarmRestart) }, Changed},
		{func() { x.SetMode(api.Normal) }, Changed},
		{func() { x.SetMode(api.Warm) }, Itself},
		{func() { x.SetMode(api.Warm) }, Itself},
		{func() { x.Act(api.Ignore) }, Itself},
		{func() { x.Act(api.ColdRestart) }, Changed},
		{func() { x.SetMode(api.Warm) }, Changed},
		{func() { x.SetMode(api.Cold) }, Itself},
		{func() { x.Act(9) }, Itself},
		{func() { x.SetMode(api.Idle) }, Itself},
	} {
		c.do()
		if x.Cause() != c.cause || x.Shot().Cause != c.cause || x.Starts() != []int{1, 2, 2, 3, 4, 4, 5, 5, 6, 6, 6}[i] {
			t.Error(i, x.Cause(), x.Starts())
		}
	}
}

func TestManyStarts(t *testing.T) { // P21.1: each counts, however many there are
	x := New(nav())
	for i := range 70000 {
		if x.Starts() != i+1 || x.Shot().Starts != i+1 {
			t.Fatal(i, x.Starts())
		}
		if i%2 == 0 && !x.Act(api.WarmRestart) || i%2 == 1 && x.SetMode(api.Cold) != api.NoError {
			t.Fatal(i, x.Shot())
		}
	}
}

func TestReadAndWrite(t *testing.T) { // P21.1: each cell, in each mode; what doesn't run is told ahead of what isn't there
	next := ruled(5)
	for now := range 4 {
		for _, n := range []int{0, 1, 2, api.MaxCells, api.MaxCells + 1} {
			p := api.Partition{Cells: mixed(next, n)}
			x, m := pair(t, p, now)
			for i := range n {
				if x.Write(i, 7) != m.write(i, 7) {
					t.Error(now, n, i)
				}
				is(t, x, m)
			}
			code := api.InvalidParam
			if now == api.Idle {
				code = api.InvalidMode
			}
			for _, i := range append([]int{n, n + 1}, nones...) {
				if i < n && i >= 0 {
					continue
				}
				if v, k := x.Read(i); v != 0 || k != code {
					t.Error(now, n, i, v, k)
				}
				if k := x.Write(i, 9); k != code {
					t.Error(now, n, i, k)
				}
			}
			is(t, x, m)
		}
	}
}

func TestAnyCalls(t *testing.T) { // P21.1: behind any calls
	next := ruled(21)
	for range 600 {
		p := api.Partition{Id: next(256), Name: "A", May: next(2) == 0, Cells: mixed(next, next(api.MaxCells+1))}
		x, m := New(p), modelled(p)
		for range 40 {
			does(t, x, m, next)
		}
	}
}

func TestCopy(t *testing.T) { // P21.1: as it is; each goes for itself
	next := ruled(22)
	for range 400 {
		p := api.Partition{Id: next(256), Name: "B", May: next(2) == 0, Cells: mixed(next, next(6))}
		x, m := New(p), modelled(p)
		for range next(12) {
			does(t, x, m, next)
		}
		y, n := x.Copy(), m.copy()
		if x == y {
			t.Fatal("copy")
		}
		for range 12 {
			is(t, x, m)
			is(t, y, n)
			if next(2) == 0 {
				does(t, x, m, next)
			} else {
				does(t, y, n, next)
			}
		}
	}
}

func TestIdle(t *testing.T) { // P21.2: whatever is done, also to a copy
	next := ruled(23)
	for range 300 {
		p := api.Partition{Id: 1, Name: "C", Cells: mixed(next, next(api.MaxCells+1))}
		x, m := New(p), modelled(p)
		for range next(10) {
			does(t, x, m, next)
		}
		x.SetMode(api.Idle)
		m.set(api.Idle)
		was := x.Shot()
		if was.Mode != api.Idle {
			t.Fatal(was)
		}
		for range 30 {
			n := numbers()[next(len(numbers()))]
			if x.Act(n) {
				t.Fatal(was, n)
			}
			if k := x.SetMode(n); k != api.InvalidMode && (k != api.InvalidParam || n >= 0 && n <= 3) {
				t.Fatal(was, n, k)
			}
			if k := x.Write(n, 3); k != api.InvalidMode {
				t.Fatal(was, n, k)
			}
			if next(4) == 0 {
				x = x.Copy()
			}
			if s := x.Shot(); !one(s, was) {
				t.Fatal(was, s)
			}
		}
		is(t, x, m)
	}
}

func TestSameShot(t *testing.T) { // P21.1: each field, each cell
	s := Shot{Id: 1, Mode: 2, Starts: 3, Cause: 2, Cells: []uint32{7, 8}}
	if !SameShot(s, Shot{Id: 1, Mode: 2, Starts: 3, Cause: 2, Cells: []uint32{7, 8}}) || !SameShot(s, s) {
		t.Error("one")
	}
	for i, o := range []Shot{
		{},
		{2, 2, 3, 2, []uint32{7, 8}},
		{1, 3, 3, 2, []uint32{7, 8}},
		{1, 2, 4, 2, []uint32{7, 8}},
		{1, 2, 3, 1, []uint32{7, 8}},
		{1, 2, 3, 2, []uint32{6, 8}},
		{1, 2, 3, 2, []uint32{7, 9}},
		{1, 2, 3, 2, []uint32{8, 7}},
		{1, 2, 3, 2, []uint32{7}},
		{1, 2, 3, 2, []uint32{7, 8, 0}},
		{1, 2, 3, 2, nil},
	} {
		if SameShot(s, o) || SameShot(o, s) {
			t.Error(i, o)
		}
	}
	if !SameShot(Shot{Id: 5}, Shot{Id: 5, Cells: []uint32{}}) || !SameShot(Shot{}, Shot{}) {
		t.Error("none")
	}
}

func TestSameShotFields(t *testing.T) { // P21.1: whichever of its fields differ, alone or together
	a := Shot{Id: 1, Mode: 2, Starts: 3, Cause: 2, Cells: []uint32{7, 8}}
	for which := range 1 << 5 {
		b := Shot{Id: 1, Mode: 2, Starts: 3, Cause: 2, Cells: []uint32{7, 8}}
		for i, change := range []func(){
			func() { b.Id = 2 },
			func() { b.Mode = 3 },
			func() { b.Starts = 4 },
			func() { b.Cause = 1 },
			func() { b.Cells[1] = 9 },
		} {
			if which>>i&1 == 1 {
				change()
			}
		}
		if SameShot(a, b) != (which == 0) || SameShot(b, a) != (which == 0) {
			t.Error(b)
		}
	}
}

func TestSameShotOfParts(t *testing.T) { // P21.1: the name, and whether it may change schedules, are none of a shot
	a, b := New(nav()), New(api.Partition{Id: 3, Cells: []api.Cell{{Value: 5, Kept: true}, {Value: 6}, {Value: math.MaxUint32}}})
	if !SameShot(a.Shot(), b.Shot()) {
		t.Error(a.Shot(), b.Shot())
	}
	a.Write(0, 1)
	if SameShot(a.Shot(), b.Shot()) {
		t.Error(a.Shot(), b.Shot())
	}
	b.Write(0, 1)
	if !SameShot(a.Shot(), b.Shot()) {
		t.Error(a.Shot(), b.Shot())
	}
	a.SetMode(api.Cold)
	b.Act(api.ColdRestart) // as often started, in the same mode, for another cause
	if SameShot(a.Shot(), b.Shot()) {
		t.Error(a.Shot(), b.Shot())
	}
}

func TestNothingIsShared(t *testing.T) { // P21.1: neither with what was handed in, nor between answers
	room := nav().Cells
	p := api.Partition{Id: 3, Cells: room[:2]}
	given := slices.Clone(room)
	x := New(p)
	m := modelled(api.Partition{Id: 3, Cells: given[:2]})
	x.Write(0, 70)
	x.Write(1, 80)
	x.SetMode(api.Cold)
	if !slices.Equal(room, given) {
		t.Error(room)
	}
	clear(room)
	m.start(1, Itself)
	is(t, x, m)
	a, b := x.Shot(), x.Shot()
	clear(a.Cells)
	_ = append(b.Cells[:1], 4)
	is(t, x, m)
	if !slices.Equal(x.Shot().Cells, []uint32{5, 6}) || b.Cells[0] != 5 {
		t.Error(x.Shot(), b)
	}
	b = x.Shot()
	x.Write(0, 9)
	if b.Cells[0] != 5 {
		t.Error(b)
	}
}
