package cells

import (
	"math"
	"slices"
	"testing"

	"countwheel/api"
)

// most is the greatest number of a cell.
const most uint32 = math.MaxUint32

// values are the edges of a cell's numbers, and some between.
var values = []uint32{0, 1, 2, 9, 255, 256, 65535, 65536, 1<<31 - 1, 1 << 31, 0x01020304, most - 1, most}

// far are numbers of no cell, however many there are.
var far = []int{math.MinInt, math.MinInt + 1, -1 << 32, -256, -2, -1, 1 << 31, 1 << 32, 1<<32 + 1, math.MaxInt - 1, math.MaxInt}

// ruled is a row of numbers that a rule makes, each of which is below what it is asked with.
func ruled(x uint64) func(n int) int {
	return func(n int) int {
		x = x*6364136223846793005 + 1442695040888963407
		return int(x>>33) % n
	}
}

// mixed are n cells, some of them kept.
func mixed(next func(n int) int, n int) []api.Cell {
	l := make([]api.Cell, n)
	for i := range l {
		l[i] = api.Cell{Value: values[next(len(values))], Kept: next(2) == 0}
	}
	return l
}

// model is cells that go by their words.
type model struct {
	first  []api.Cell
	now    []uint32
	writes int
}

// modelled is a model as it is at first.
func modelled(l []api.Cell) *model {
	m := &model{first: slices.Clone(l)}
	for _, c := range l {
		m.now = append(m.now, c.Value)
	}
	return m
}

// copy is a model of its own.
func (m *model) copy() *model {
	return &model{first: m.first, now: slices.Clone(m.now), writes: m.writes}
}

// set gives a cell of the model a number.
func (m *model) set(i int, v uint32) bool {
	if i < 0 || i >= len(m.now) {
		return false
	}
	m.now[i] = v
	m.writes++
	return true
}

// cold starts the model cold.
func (m *model) cold() { *m = *modelled(m.first) }

// warm starts the model warm.
func (m *model) warm() {
	for i, c := range m.first {
		if !c.Kept {
			m.now[i] = c.Value
		}
	}
}

// fresh tells whether the model's numbers are those that it had at first.
func (m *model) fresh() bool { return slices.Equal(m.now, modelled(m.first).now) }

// is holds all that cells tell against the model.
func is(t *testing.T, c *Cells, m *model) {
	t.Helper()
	for range 2 { // to ask changes nothing
		if c.Len() != len(m.now) || !slices.Equal(c.All(), m.now) || c.Writes() != m.writes || c.Fresh() != m.fresh() {
			t.Fatal(*m, c.Len(), c.All(), c.Writes(), c.Fresh())
		}
		for i, v := range m.now {
			if got, ok := c.Get(i); got != v || !ok {
				t.Fatal(*m, i, got, ok)
			}
		}
		for _, i := range append(far, len(m.now), len(m.now)+1, len(m.now)+256) {
			if v, ok := c.Get(i); v != 0 || ok {
				t.Fatal(*m, i, v, ok)
			}
		}
	}
}

// does lets both do one thing, and holds what they tell against each other.
func does(t *testing.T, c *Cells, m *model, next func(n int) int) {
	t.Helper()
	switch next(8) {
	case 0:
		c.Cold()
		m.cold()
	case 1:
		c.Warm()
		m.warm()
	case 2:
		i := slices.Concat(far, []int{len(m.now), len(m.now) + 1})[next(len(far)+2)]
		if c.Set(i, 7) {
			t.Fatal(*m, i)
		}
	default:
		i, v := next(len(m.now)+1), values[next(len(values))]
		if next(3) == 0 && i < len(m.now) { // back to what it was at first
			v = m.first[i].Value
		}
		if c.Set(i, v) != m.set(i, v) {
			t.Fatal(*m, i, v)
		}
	}
	is(t, c, m)
}

func TestExample(t *testing.T) { // P20.1, P20.2
	c := New([]api.Cell{{Value: 1, Kept: true}, {Value: 2}})
	if !c.Set(0, 9) || !c.Set(1, 9) {
		t.Error("set")
	}
	c.Warm()
	if l := c.All(); !slices.Equal(l, []uint32{9, 2}) {
		t.Error(l)
	}
}

func TestNew(t *testing.T) { // P20.1: any number of cells, more than a partition has too
	next := ruled(3)
	for _, n := range []int{0, 1, 2, api.MaxCells, api.MaxCells + 1, 1000} {
		l := mixed(next, n)
		is(t, New(l), modelled(l))
	}
	is(t, New(nil), modelled(nil))
}

func TestNone(t *testing.T) { // P20.1: no cells at all
	c := New(nil)
	for _, i := range append(far, 0, 1) {
		if c.Set(i, 1) {
			t.Error(i)
		}
	}
	c.Warm()
	c.Cold()
	is(t, c, modelled(nil))
	is(t, c.Copy(), modelled(nil))
	if !c.Fresh() || !Same(c, New([]api.Cell{})) || Same(c, New([]api.Cell{{}})) {
		t.Error("none")
	}
}

func TestSet(t *testing.T) { // P20.1: each cell alone, by each number
	next := ruled(8)
	l := mixed(next, api.MaxCells)
	for i := range l {
		c, m := New(l), modelled(l)
		for _, v := range values {
			if !c.Set(i, v) || !m.set(i, v) {
				t.Error(i, v)
			}
			is(t, c, m)
		}
	}
}

func TestSetNone(t *testing.T) { // P20.1: where there is no cell, nothing
	next := ruled(4)
	for n := range api.MaxCells + 1 {
		l := mixed(next, n)
		c, m := New(l), modelled(l)
		if n > 0 {
			c.Set(n-1, 77)
			m.set(n-1, 77)
		}
		for _, i := range append(far, n, n+1, n+256) {
			if c.Set(i, 5) {
				t.Error(n, i)
			}
			is(t, c, m)
		}
	}
}

func TestWrites(t *testing.T) { // P20.1: also of the number that a cell has; a warm start doesn't begin anew
	c := New([]api.Cell{{Value: 4}, {Value: 5, Kept: true}})
	for i := range 10 {
		c.Set(0, 4)
		if c.Writes() != i+1 || !c.Fresh() {
			t.Error(i, c.Writes())
		}
	}
	c.Set(2, 4)
	c.Warm()
	if c.Writes() != 10 {
		t.Error(c.Writes())
	}
	c.Set(1, 6)
	c.Cold()
	if c.Writes() != 0 {
		t.Error(c.Writes())
	}
	c.Set(1, 6)
	if c.Writes() != 1 {
		t.Error(c.Writes())
	}
}

func TestFresh(t *testing.T) { // P20.1: by the numbers, each of them, however they came
	for n := range api.MaxCells + 1 {
		for i := range n {
			for _, kept := range []bool{false, true} {
				l := slices.Repeat([]api.Cell{{Value: 8, Kept: kept}}, n)
				c := New(l)
				c.Set(i, 9)
				if c.Fresh() {
					t.Error(n, i, kept)
				}
				d := c.Copy()
				c.Set(i, 8)
				if !c.Fresh() {
					t.Error(n, i, kept)
				}
				d.Warm()
				if d.Fresh() == kept {
					t.Error(n, i, kept)
				}
				d.Cold()
				if !d.Fresh() {
					t.Error(n, i, kept)
				}
			}
		}
	}
}

func TestColdAndWarm(t *testing.T) { // P20.1, P20.2: a warm start leaves just the kept cells, a cold one none
	next := ruled(6)
	for range 500 {
		l := mixed(next, next(api.MaxCells+1))
		c := New(l)
		var set []uint32
		for i := range l {
			v := uint32(next(1 << 30))
			set = append(set, v)
			c.Set(i, v)
		}
		c.Warm()
		for i, v := range c.All() {
			if l[i].Kept && v != set[i] || !l[i].Kept && v != l[i].Value {
				t.Fatal(l, set, i, v)
			}
		}
		again := c.All()
		c.Warm()
		if !slices.Equal(c.All(), again) {
			t.Fatal(l, again, c.All())
		}
		c.Cold()
		for i, v := range c.All() {
			if v != l[i].Value {
				t.Fatal(l, i, v)
			}
		}
	}
}

func TestAnyCalls(t *testing.T) { // P20.1, P20.2: behind any calls
	next := ruled(12)
	for range 400 {
		l := mixed(next, next(api.MaxCells+1))
		c, m := New(l), modelled(l)
		for range 40 {
			does(t, c, m, next)
		}
	}
}

func TestCopy(t *testing.T) { // P20.1: as they are; each goes for itself
	next := ruled(31)
	for range 400 {
		l := mixed(next, next(api.MaxCells+1))
		c, m := New(l), modelled(l)
		for range next(12) {
			does(t, c, m, next)
		}
		d, n := c.Copy(), m.copy()
		if c == d || !Same(c, d) {
			t.Fatal("copy")
		}
		is(t, d, n)
		for range 12 {
			if next(2) == 0 {
				does(t, c, m, next)
			} else {
				does(t, d, n, next)
			}
			is(t, c, m)
			is(t, d, n)
			if Same(c, d) != slices.Equal(m.now, n.now) || Same(d, c) != Same(c, d) {
				t.Fatal(*m, *n)
			}
		}
	}
}

func TestSame(t *testing.T) { // P20.1: as many, and the same numbers; what they were at first, what is kept, and how often they were set has no part in it
	c := New([]api.Cell{{Value: 1}, {Value: 2}})
	for _, x := range []struct {
		l    []api.Cell
		want bool
	}{
		{nil, false},
		{[]api.Cell{{Value: 1}}, false},
		{[]api.Cell{{Value: 1}, {Value: 2}}, true},
		{[]api.Cell{{Value: 1, Kept: true}, {Value: 2, Kept: true}}, true},
		{[]api.Cell{{Value: 2}, {Value: 1}}, false},
		{[]api.Cell{{Value: 1}, {Value: 3}}, false},
		{[]api.Cell{{Value: 0}, {Value: 2}}, false},
		{[]api.Cell{{Value: 1}, {Value: 2}, {}}, false},
		{[]api.Cell{{Value: 1}, {Value: 2}, {Value: 2}}, false},
	} {
		d := New(x.l)
		if Same(c, d) != x.want || Same(d, c) != x.want {
			t.Error(x.l)
		}
	}
	d := New([]api.Cell{{Value: 7}, {Value: 8, Kept: true}})
	d.Set(0, 1)
	if Same(c, d) {
		t.Error("one")
	}
	d.Set(1, 5)
	d.Set(1, 2)
	if !Same(c, d) || !Same(c, c) || c.Writes() != 0 || d.Writes() != 3 {
		t.Error("both")
	}
}

func TestSameEachPlace(t *testing.T) { // P20.1: one number that differs, wherever it stands
	l := make([]api.Cell, api.MaxCells)
	for i := range l {
		c, d := New(l), New(l)
		c.Set(i, 1<<31)
		if Same(c, d) || Same(d, c) {
			t.Error(i)
		}
		d.Set(i, 1<<31)
		if !Same(c, d) {
			t.Error(i)
		}
	}
}

func TestNothingIsShared(t *testing.T) { // P20.1: neither with what was handed in, nor between answers
	room := []api.Cell{{Value: 1, Kept: true}, {Value: 2}, {Value: 3}}
	given := slices.Clone(room)
	c := New(room[:2])
	c.Set(0, 9)
	c.Set(1, 9)
	c.Cold()
	if !slices.Equal(room, given) {
		t.Error("changed")
	}
	clear(room)
	m := modelled(given[:2])
	is(t, c, m)
	c.Set(0, 5)
	c.Set(1, 5)
	m.set(0, 5)
	m.set(1, 5)
	d := c.Copy()
	a, b := c.All(), c.All()
	clear(a)
	if !slices.Equal(b, []uint32{5, 5}) {
		t.Error(b)
	}
	_ = append(b[:1], 8)
	is(t, c, m)
	c.Warm()
	m.warm()
	is(t, c, m)
	if !slices.Equal(d.All(), []uint32{5, 5}) || d.Writes() != 2 {
		t.Error(d.All(), d.Writes())
	}
	c.Cold()
	m.cold()
	is(t, c, m)
}
