package frame

import (
	"math"
	"slices"
	"testing"

	"countwheel/api"
	"countwheel/fault"
	"countwheel/table"
)

// end is the greatest time.
const end uint64 = math.MaxUint64

// ruled is a row of numbers that a rule makes, each of which is below what it is asked with.
func ruled(x uint64) func(n int) int {
	return func(n int) int {
		x = x*6364136223846793005 + 1442695040888963407
		return int(x>>33) % n
	}
}

// words are whose the ticks of schedules are, by their ids: frames of 1 to 7 ticks.
func words() map[int][]int {
	return map[int][]int{
		0:           {4},
		1:           {5, -1},
		2:           {-1, 6, 6},
		3:           {1, 1, 2, -1, -1, 1, 3},
		-7:          {-1},
		math.MaxInt: {8, 9, 8, 9},
	}
}

// one is the table of a word.
func one(t *testing.T, id int, word []int) *table.Table {
	t.Helper()
	x := api.Schedule{Id: id, Frame: len(word)}
	for tick, owner := range word {
		if owner != -1 {
			x.Windows = append(x.Windows, api.Window{Id: owner, Offset: tick, Length: 1})
		}
	}
	a, e := table.New(x, []int{1, 2, 3, 4, 5, 6, 8, 9})
	if e != nil {
		t.Fatal(fault.Text(e))
	}
	return a
}

// ids are all words' ids, rising.
func ids() []int { return []int{-7, 0, 1, 2, 3, math.MaxInt} }

// tables are all words'.
func tables(t *testing.T) []*table.Table {
	t.Helper()
	var l []*table.Table
	for _, id := range ids() {
		l = append(l, one(t, id, words()[id]))
	}
	return l
}

// made is an engine that may be.
func made(t *testing.T, l []*table.Table, first int, epoch uint64) *Engine {
	t.Helper()
	e, k := New(l, first, epoch)
	if k != api.OK || e == nil {
		t.Fatal(first, epoch, k)
	}
	return e
}

// model is an engine that goes by words.
type model struct {
	words        map[int][]int
	now          uint64
	current, due int
	offset       int
	frames       uint64
}

// tick is a tick of the model.
func (m *model) tick() (int, bool, bool) {
	if m.now == end {
		return -1, false, false
	}
	owner := m.words[m.current][m.offset]
	m.now++
	m.offset++
	if m.offset < len(m.words[m.current]) {
		return owner, false, true
	}
	m.offset = 0
	m.frames++
	m.current = m.due
	return owner, true, true
}

// is holds all that an engine tells against the model.
func is(t *testing.T, e *Engine, m *model) {
	t.Helper()
	word := m.words[m.current]
	for range 2 { // to ask changes nothing
		if e.Now() != m.now || e.Halted() != (m.now == end) || e.Current() != m.current || e.Due() != m.due {
			t.Fatal(*m, e.Now(), e.Halted(), e.Current(), e.Due())
		}
		if e.Owner() != word[m.offset] || e.Offset() != m.offset || e.Left() != len(word)-m.offset || e.Frames() != m.frames {
			t.Fatal(*m, e.Owner(), e.Offset(), e.Left(), e.Frames())
		}
	}
}

// ticks lets both tick, and holds what they tell against each other.
func ticks(t *testing.T, e *Engine, m *model) {
	t.Helper()
	owner, boundary, ok := e.Tick()
	wantOwner, wantBoundary, wantOk := m.tick()
	if owner != wantOwner || boundary != wantBoundary || ok != wantOk {
		t.Fatal(*m, owner, boundary, ok)
	}
	is(t, e, m)
}

func TestExample(t *testing.T) { // P18.1
	e := made(t, tables(t), 1, 0)
	if _, boundary, ok := e.Tick(); boundary || !ok {
		t.Error(boundary, ok)
	}
	if _, boundary, ok := e.Tick(); !boundary || !ok {
		t.Error(boundary, ok)
	}
}

func TestNew(t *testing.T) { // P18.1: each table as the first one, whichever place it has
	for _, epoch := range []uint64{0, 1, 1 << 32, 1 << 63, end - 1, end} {
		for _, first := range ids() {
			l := tables(t)
			is(t, made(t, l, first, epoch), &model{words: words(), now: epoch, current: first, due: first})
			slices.Reverse(l)
			is(t, made(t, l, first, epoch), &model{words: words(), now: epoch, current: first, due: first})
		}
	}
}

func TestNewWrong(t *testing.T) { // P18.1: each error, and which of them is asked first
	a, b, c := one(t, 1, []int{1}), one(t, 2, []int{-1}), one(t, 1, []int{2, 2})
	for _, x := range []struct {
		l     []*table.Table
		first int
		want  api.Errno
	}{
		{[]*table.Table{nil}, 1, api.ErrArg},
		{[]*table.Table{nil}, 0, api.ErrArg},
		{[]*table.Table{nil, a, b}, 1, api.ErrArg},
		{[]*table.Table{a, nil, b}, 1, api.ErrArg},
		{[]*table.Table{a, b, nil}, 2, api.ErrArg},
		{[]*table.Table{a, a, nil}, 1, api.ErrArg},
		{[]*table.Table{nil, nil}, 9, api.ErrArg},
		{[]*table.Table{a, a}, 1, api.ErrOrder},
		{[]*table.Table{a, c}, 1, api.ErrOrder},
		{[]*table.Table{a, b, c}, 2, api.ErrOrder},
		{[]*table.Table{b, a, b}, 9, api.ErrOrder},
		{nil, 0, api.ErrRef},
		{[]*table.Table{}, 1, api.ErrRef},
		{[]*table.Table{a}, 0, api.ErrRef},
		{[]*table.Table{a, b}, 3, api.ErrRef},
		{[]*table.Table{a, b}, -1, api.ErrRef},
		{[]*table.Table{a, b}, math.MinInt, api.ErrRef},
		{[]*table.Table{a, b}, 1 + 1<<32, api.ErrRef},
	} {
		given := slices.Clone(x.l)
		e, k := New(x.l, x.first, 5)
		if e != nil || k != x.want {
			t.Error(len(x.l), x.first, e != nil, k, x.want)
		}
		if !slices.Equal(x.l, given) {
			t.Error("changed")
		}
	}
}

func TestMake(t *testing.T) { // P18.1: the last one counts, from the next boundary on
	for _, first := range ids() {
		e := made(t, tables(t), first, 0)
		m := &model{words: words(), current: first, due: first}
		for _, id := range []int{-8, -1, 4, 256, math.MinInt, math.MaxInt - 1, 1 << 32} {
			if e.Make(id) {
				t.Error(id)
			}
			is(t, e, m)
		}
		for _, id := range append(ids(), first, 2, 2) {
			for range 2 {
				if !e.Make(id) {
					t.Error(id)
				}
				m.due = id
				is(t, e, m)
			}
			if e.Make(5) {
				t.Error("5")
			}
			is(t, e, m)
		}
		for range 20 {
			ticks(t, e, m)
		}
	}
}

func TestMakeBackAgain(t *testing.T) { // P18.1: the one that runs may be made due again
	e := made(t, tables(t), 2, 100)
	m := &model{words: words(), now: 100, current: 2, due: 2}
	ticks(t, e, m)
	if !e.Make(3) || e.Due() != 3 || !e.Make(2) || e.Due() != 2 {
		t.Error(e.Due())
	}
	for range 10 {
		ticks(t, e, m)
	}
}

func TestTick(t *testing.T) { // P18.1, P18.2: whatever is made due, whenever, and up to the clock's end
	next := ruled(23)
	for range 300 {
		first := ids()[next(len(ids()))]
		epoch := end - uint64(next(60))
		if next(3) == 0 {
			epoch = uint64(next(1000))
		}
		e := made(t, tables(t), first, epoch)
		m := &model{words: words(), now: epoch, current: first, due: first}
		often := 1 + next(9)
		for range 70 {
			if next(often) == 0 {
				id := next(6) - 1
				_, there := m.words[id]
				if e.Make(id) != there {
					t.Fatal(id)
				}
				if there {
					m.due = id
				}
				is(t, e, m)
			}
			ticks(t, e, m)
		}
	}
}

func TestWholeFrames(t *testing.T) { // P18.2: what is emitted is whole frames of what was due, and a beginning of one
	next := ruled(5)
	for range 200 {
		first := ids()[next(len(ids()))]
		e := made(t, tables(t), first, end-uint64(next(50)))
		var emitted, told []int
		due := []int{first}
		for {
			if id := next(12); e.Make(id) != (id < 4) {
				t.Fatal(id)
			}
			last := e.Due()
			owner, boundary, ok := e.Tick()
			if !ok {
				break
			}
			emitted = append(emitted, owner)
			if boundary {
				due = append(due, last)
			}
		}
		for _, id := range due[:len(due)-1] {
			told = append(told, words()[id]...)
		}
		if uint64(len(due)-1) != e.Frames() || e.Current() != due[len(due)-1] {
			t.Fatal(due, e.Frames(), e.Current())
		}
		told = append(told, words()[e.Current()][:e.Offset()]...)
		if !slices.Equal(emitted, told) {
			t.Fatal(due, emitted, told)
		}
	}
}

func TestHalted(t *testing.T) { // P18.1: nothing ticks any more, but what is due may be told
	e := made(t, tables(t), 2, end-2)
	m := &model{words: words(), now: end - 2, current: 2, due: 2}
	ticks(t, e, m)
	ticks(t, e, m)
	for range 5 {
		if owner, boundary, ok := e.Tick(); owner != -1 || boundary || ok {
			t.Error(owner, boundary, ok)
		}
		is(t, e, m)
	}
	if !e.Make(1) || e.Make(9) {
		t.Error("make")
	}
	m.due = 1
	is(t, e, m)
	ticks(t, e, m)
}

func TestLastTickIsBoundary(t *testing.T) { // P18.1: at the clock's end too, the table that is due runs
	e := made(t, tables(t), 1, end-2)
	m := &model{words: words(), now: end - 2, current: 1, due: 1}
	e.Make(3)
	m.due = 3
	for range 4 {
		ticks(t, e, m)
	}
	if !e.Halted() || e.Current() != 3 || e.Offset() != 0 || e.Left() != 7 || e.Owner() != 1 || e.Frames() != 1 {
		t.Error(e.Current(), e.Offset(), e.Frames())
	}
}

func TestCopy(t *testing.T) { // P18.1: each goes for itself
	next := ruled(41)
	for range 200 {
		first := next(4)
		epoch := end - uint64(next(40))
		e := made(t, tables(t), first, epoch)
		m := &model{words: words(), now: epoch, current: first, due: first}
		for range next(20) {
			m.due = next(4)
			e.Make(m.due)
			ticks(t, e, m)
		}
		m.due = next(4)
		e.Make(m.due)
		c, n := e.Copy(), *m
		if c == e {
			t.Fatal("one")
		}
		is(t, c, &n)
		for range 12 {
			one, other := e, m
			if next(2) == 0 {
				one, other = c, &n
			}
			if id := next(8); one.Make(id) {
				other.due = id
			}
			for range next(4) {
				ticks(t, one, other)
			}
			is(t, e, m)
			is(t, c, &n)
		}
	}
}

func TestNothingIsKept(t *testing.T) { // P18.1: the row of tables isn't kept, and tables are only read
	l := tables(t)
	runs := make([][]table.Run, len(l))
	for i, a := range l {
		runs[i] = a.Runs()
	}
	given := slices.Clone(l)
	room := append(l, one(t, 77, []int{1}))
	e := made(t, room[:len(l)], 0, 0)
	if !slices.Equal(room[:len(given)], given) || room[len(given)].Id() != 77 || e.Make(77) {
		t.Error("changed")
	}
	clear(room)
	other := made(t, given, 3, 9)
	m, n := &model{words: words()}, &model{words: words(), now: 9, current: 3, due: 3}
	cursor := given[4].Cursor()
	for i := range 60 {
		m.due = i % 4
		e.Make(m.due)
		ticks(t, e, m)
		is(t, other, n)
		ticks(t, other, n)
		if cursor.Tick() != i%7 {
			t.Error(i, cursor.Tick())
		}
		cursor.Step()
	}
	for i, a := range given {
		if !slices.Equal(a.Runs(), runs[i]) {
			t.Error(a.Runs())
		}
	}
}
