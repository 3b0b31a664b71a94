package strip

import (
	"fmt"
	"math"
	"slices"
	"strings"
	"testing"

	"countwheel/api"
	"countwheel/fault"
)

// full is how many ticks a strip may have.
const full = 1 << 30

// odd are numbers that no place, and no count, of a small strip is.
var odd = []int{math.MinInt, math.MinInt + 1, -1 << 33, -1 << 32, -256, -2, -1, 1 << 20, 1 << 30, 1<<30 + 1, 1 << 32, 1<<32 + 1, 1 << 62, math.MaxInt - 1, math.MaxInt}

// ruled is a row of numbers that a rule makes, each of which is below what it is asked with.
func ruled(x uint64) func(n int) int {
	return func(n int) int {
		x = x*6364136223846793005 + 1442695040888963407
		return int(x>>33) % n
	}
}

// owned is whose the tick i of owners is, and whether there is one.
func owned(owners []int, i int) (int, bool) {
	for n, id := range owners {
		if n == i {
			return id, true
		}
	}
	return -1, false
}

// rowsOf are owners as rows, tick by tick.
func rowsOf(owners []int) []Row {
	var l []Row
	for i, id := range owners {
		if i > 0 && owners[i-1] == id {
			l[len(l)-1].Count++
		} else {
			l = append(l, Row{id, 1})
		}
	}
	return l
}

// count is how many of owners are one.
func count(owners []int, id int) int {
	n := 0
	for _, o := range owners {
		if o == id {
			n++
		}
	}
	return n
}

// part are the owners of the ticks from from on, up to to.
func part(owners []int, from, to int) []int {
	var l []int
	for i, id := range owners {
		if i >= from && i < to {
			l = append(l, id)
		}
	}
	return l
}

// is holds all that a strip tells of itself against its owners, twice: to ask changes nothing.
func is(t *testing.T, s *Strip, owners []int) {
	t.Helper()
	for range 2 {
		if s.Len() != len(owners) || !slices.Equal(s.Rows(), rowsOf(owners)) || !slices.Equal(s.Word(), owners) {
			t.Fatal(s.Len(), s.Rows(), s.Word(), owners)
		}
		for i := -2; i < len(owners)+2; i++ {
			id, ok := s.At(i)
			if want, is := owned(owners, i); id != want || ok != is {
				t.Fatal(i, id, ok, owners)
			}
		}
		for id := -3; id < 9; id++ {
			if n := s.Count(id); n != count(owners, id) {
				t.Fatal(id, n, owners)
			}
		}
	}
}

// mixed are owners in rows, some of which are one owner's side by side.
func mixed(next func(n int) int) []int {
	var l []int
	for range next(9) {
		id := next(4) - 1
		for range next(4) {
			l = append(l, id)
		}
	}
	return l
}

func TestExample(t *testing.T) { // P27.1
	s := Of([]int{1, 1, -1})
	if !slices.Equal(s.Rows(), []Row{{1, 2}, {-1, 1}}) {
		t.Error(s.Rows())
	}
	is(t, s, []int{1, 1, -1})
}

func TestNew(t *testing.T) { // P27.1: no ticks
	is(t, New(), nil)
	is(t, Of(nil), nil)
	is(t, Of([]int{}), nil)
	is(t, New().Part(0, 9), nil)
	a, b := New(), New()
	a.Add(3, 2)
	is(t, a, []int{3, 3})
	is(t, b, nil)
}

func TestModel(t *testing.T) { // P27.1: any calls, as the model has them
	next := ruled(1)
	for range 400 {
		s, owners := New(), []int(nil)
		for range next(14) {
			id, n := next(4)-1, next(4)
			switch next(9) {
			case 0:
				id = odd[next(len(odd))]
			case 1:
				n = odd[next(7)] // below 0
			case 2:
				n = odd[8+next(len(odd)-8)] // too many, where there is one
			}
			want := n >= 0 && n <= full-len(owners)
			if want && n > 100 {
				continue // many are tried apart
			}
			if ok := s.Add(id, n); ok != want {
				t.Fatal(id, n, ok)
			}
			if want {
				owners = append(owners, slices.Repeat([]int{id}, n)...)
			}
			is(t, s, owners)
		}
		is(t, Of(owners), owners)
	}
}

func TestAddNothing(t *testing.T) { // P27.1: n of 0 makes no row, and n that may not be changes nothing
	s := New()
	for _, id := range []int{-1, 0, 7} {
		if !s.Add(id, 0) {
			t.Error(id)
		}
		is(t, s, nil)
	}
	s.Add(1, 2)
	if !s.Add(2, 0) || !s.Add(-1, 0) || !s.Add(1, 1) {
		t.Error("none")
	}
	is(t, s, []int{1, 1, 1}) // still one row
	for _, n := range []int{-1, -2, math.MinInt, full - 2, full, full + 1, 1 << 31, 1 << 32, 1<<32 + 1, math.MaxInt} {
		if s.Add(1, n) || s.Add(2, n) {
			t.Error(n)
		}
		is(t, s, []int{1, 1, 1})
	}
}

func TestFull(t *testing.T) { // P27.1: at most 2^30 ticks
	s := New()
	if s.Add(5, full+1) || s.Len() != 0 || !s.Add(5, full) || s.Len() != full {
		t.Fatal(s.Len())
	}
	for _, id := range []int{5, 6} {
		if s.Add(id, 1) || s.Add(id, math.MaxInt) || s.Add(id, -1) || !s.Add(id, 0) || !slices.Equal(s.Rows(), []Row{{5, full}}) {
			t.Error(s.Rows())
		}
	}
	s = New()
	for i := range 4 {
		if s.Add(i, full/4+1) != (i < 3) {
			t.Error(i)
		}
	}
	if s.Len() != full/4*3+3 || !s.Add(3, full/4-3) || s.Add(4, 1) {
		t.Error(s.Len())
	}
	if !slices.Equal(s.Rows(), []Row{{0, full/4 + 1}, {1, full/4 + 1}, {2, full/4 + 1}, {3, full/4 - 3}}) {
		t.Error(s.Rows())
	}
	for i, want := range map[int]int{0: 0, full / 4: 0, full/4 + 1: 1, full/2 + 1: 1, full/2 + 2: 2, full/4*3 + 2: 2, full/4*3 + 3: 3, full - 1: 3} {
		if id, ok := s.At(i); id != want || !ok {
			t.Error(i, id, ok)
		}
	}
	if id, ok := s.At(full); id != -1 || ok {
		t.Error(id, ok)
	}
	p := s.Part(full/4-1, full-1)
	if !slices.Equal(p.Rows(), []Row{{0, 2}, {1, full/4 + 1}, {2, full/4 + 1}, {3, full/4 - 4}}) || p.Len() != full/4*3 {
		t.Error(p.Rows(), p.Len())
	}
	if !Same(s.Part(0, full), s) || !Same(s.Part(math.MinInt, math.MaxInt), s) || s.Count(0) != full/4+1 || s.Count(3) != full/4-3 || s.Count(4) != 0 {
		t.Error(s.Count(0))
	}
}

func TestAnyIds(t *testing.T) { // P27.1: an owner's id may be any number
	var owners []int
	s := New()
	for _, id := range odd {
		if !s.Add(id, 2) {
			t.Error(id)
		}
		owners = append(owners, id, id)
	}
	is(t, s, owners)
	is(t, Of(owners), owners)
	for _, id := range odd {
		if s.Count(id) != 2 {
			t.Error(id, s.Count(id))
		}
	}
}

func TestAtBeyond(t *testing.T) { // P27.1: -1, false of a tick that there isn't
	for _, owners := range [][]int{nil, {4}, {4, 4, 0, -1, 5}} {
		s := Of(owners)
		for _, i := range append(slices.Clone(odd), len(owners), len(owners)+1) {
			if id, ok := s.At(i); id != -1 || ok {
				t.Error(owners, i, id, ok)
			}
		}
	}
}

func TestCountAll(t *testing.T) { // P27.1: of an owner of several rows all of them
	s := Of([]int{2, 2, -1, 2, 0, -1, -1, 2, 2, 2})
	for id, want := range map[int]int{2: 6, -1: 3, 0: 1, 1: 0, -2: 0, 3: 0} {
		if n := s.Count(id); n != want {
			t.Error(id, n)
		}
	}
}

func TestPart(t *testing.T) { // P27.1: the ticks from from on, up to to, of those that there are
	next := ruled(2)
	for range 150 {
		owners := mixed(next)
		s := Of(owners)
		ends := append(slices.Clone(odd), odd...)
		for i := -2; i < len(owners)+3; i++ {
			ends = append(ends, i)
		}
		for _, from := range ends {
			for _, to := range ends {
				p := s.Part(from, to)
				if want := part(owners, from, to); p.Len() != len(want) || !slices.Equal(p.Rows(), rowsOf(want)) {
					t.Fatal(owners, from, to, p.Rows())
				}
			}
		}
		is(t, s.Part(1, len(owners)-1), part(owners, 1, len(owners)-1))
	}
}

func TestWordLong(t *testing.T) { // P27.1: Word of 2^20 ticks
	next := ruled(3)
	s, owners := New(), make([]int, 0, 1<<20)
	for len(owners) < 1<<20 {
		id, n := next(5)-1, min(next(2000), 1<<20-len(owners))
		s.Add(id, n)
		owners = append(owners, slices.Repeat([]int{id}, n)...)
	}
	if s.Len() != 1<<20 || !slices.Equal(s.Word(), owners) || !slices.Equal(s.Rows(), rowsOf(owners)) || !Same(s, Of(owners)) {
		t.Error(s.Len())
	}
	for range 2000 {
		i := next(1 << 20)
		if id, ok := s.At(i); id != owners[i] || !ok {
			t.Fatal(i, id, ok)
		}
	}
	for range 20 {
		from, to := next(1<<20), next(1<<20)
		if p := s.Part(from, to); !slices.Equal(p.Word(), owners[from:max(from, to)]) {
			t.Fatal(from, to, p.Len())
		}
	}
	single := Of(slices.Repeat([]int{254}, 1<<20))
	if !slices.Equal(single.Rows(), []Row{{254, 1 << 20}}) || !slices.Equal(single.Word(), slices.Repeat([]int{254}, 1<<20)) {
		t.Error(single.Rows())
	}
}

func TestWordTooLong(t *testing.T) { // Word ends, also where it would be more than may be told
	s := New()
	s.Add(3, full)
	if w := s.Word(); len(w) != 0 {
		t.Error(len(w))
	}
}

func TestSame(t *testing.T) { // P27.1: the same owners, however they came in
	next := ruled(4)
	same, other := 0, 0
	for range 4000 {
		a, b := mixed(next), mixed(next)
		if next(2) == 0 {
			b = slices.Clone(a)
			if len(b) > 0 && next(2) == 0 {
				b[next(len(b))] = next(4) - 1
			}
		}
		x, y := Of(a), New()
		for i := 0; i < len(b); {
			n := 1
			for i+n < len(b) && b[i+n] == b[i] && next(2) == 0 {
				n++
			}
			y.Add(b[i], n)
			y.Add(next(5), 0)
			i += n
		}
		want := slices.Equal(a, b)
		if Same(x, y) != want || Same(y, x) != want || !Same(x, x) {
			t.Fatal(a, b)
		}
		if want {
			same++
		} else {
			other++
		}
	}
	if same < 500 || other < 500 {
		t.Error(same, other)
	}
	for _, l := range [][2][]int{{{1}, {1, 1}}, {{1}, nil}, {{1, 2}, {2, 1}}, {{1, 1, 2}, {1, 2, 2}}, {{1, 2}, {1, 3}}, {{1, 2}, {1}}, {{-1}, nil}} {
		if Same(Of(l[0]), Of(l[1])) || Same(Of(l[1]), Of(l[0])) {
			t.Error(l)
		}
	}
}

func TestNothingShared(t *testing.T) { // P27.1: what was handed in isn't kept, nor changed, what is told is new
	given := append(make([]int, 0, 8), 1, 1, 2, -1)
	room := given[:8]
	s := Of(given)
	if !slices.Equal(room, []int{1, 1, 2, -1, 0, 0, 0, 0}) {
		t.Error(room)
	}
	clear(room)
	want := []int{1, 1, 2, -1}
	is(t, s, want)
	rows, word := s.Rows(), s.Word()
	rows[0], word[0] = Row{9, 9}, 9
	_ = append(rows[:1], Row{9, 9})
	is(t, s, want)
	for _, from := range []int{0, 1, 2} {
		for _, to := range []int{2, 3, 4} {
			p := s.Part(from, to)
			p.Add(want[to-1], 1)
			p.Add(8, 2)
			is(t, s, want)
		}
	}
	whole := s.Part(0, 4)
	s.Add(-1, 1)
	s.Add(6, 1)
	is(t, whole, want)
	is(t, s, []int{1, 1, 2, -1, -1, 6})
	whole.Add(7, 1)
	is(t, s, []int{1, 1, 2, -1, -1, 6})
	b, _ := Bytes(s)
	x, _ := Get(b)
	x.Add(6, 3)
	is(t, s, []int{1, 1, 2, -1, -1, 6})
}

// fails tells whether an error is of a class at a place, with that place as its one wrap.
func fails(e error, k api.Errno, at int) bool {
	return fault.Of(e) == (api.Fault{Error: k, At: at}) && fault.Text(e) == fmt.Sprintf("at %d: %s", at, fault.Name(k))
}

func TestBytesWrittenOut(t *testing.T) { // P27.1, P27.2
	s := New()
	s.Add(-1, 1)
	s.Add(0, 258)
	s.Add(254, 1<<29)
	s.Add(1, 1<<16)
	const want = "\x00\x00\x00\x00\x01\x01\x00\x00\x01\x02\xff\x20\x00\x00\x00\x02\x00\x01\x00\x00"
	if b, e := Bytes(s); b != want || e != nil {
		t.Errorf("%q %v", b, e)
	}
	if x, e := Get(want); e != nil || !slices.Equal(x.Rows(), s.Rows()) || x.Len() != s.Len() {
		t.Error(e)
	}
	if b, e := Bytes(New()); b != "" || e != nil {
		t.Errorf("%q %v", b, e)
	}
	if x, e := Get(""); e != nil || x == nil || x.Len() != 0 || len(x.Rows()) != 0 {
		t.Error(e)
	}
	whole := New()
	whole.Add(3, full)
	if b, e := Bytes(whole); b != "\x04\x40\x00\x00\x00" || e != nil {
		t.Errorf("%q %v", b, e)
	}
}

func TestBytesRange(t *testing.T) { // P27.1: ids from -1 to 254; else the number of the first row
	for id := -300; id < 600; id++ {
		b, e := Bytes(Of([]int{id}))
		if id >= -1 && id <= 254 {
			if want := string([]byte{byte(id + 1), 0, 0, 0, 1}); b != want || e != nil {
				t.Errorf("%d %q %v", id, b, e)
			}
		} else if b != "" || !fails(e, api.ErrRange, 0) {
			t.Errorf("%d %q %v", id, b, e)
		}
	}
	for _, id := range []int{-2, 255, 256, -256, -257, 1 << 32, 1<<32 - 1, -1 << 32, math.MaxInt, math.MaxInt - 1, math.MinInt, math.MinInt + 1} {
		if b, e := Bytes(Of([]int{4, 4, 4, 254, -1, -1, id, 3, -2, 255})); b != "" || !fails(e, api.ErrRange, 3) {
			t.Errorf("%d %q %v", id, b, e)
		}
		if b, e := Bytes(Of([]int{id, id, 1})); b != "" || !fails(e, api.ErrRange, 0) {
			t.Errorf("%d %q %v", id, b, e)
		}
	}
}

func TestGetBytes(t *testing.T) { // P27.2: Get of Bytes is the strip
	next := ruled(5)
	for range 600 {
		s := New()
		for range next(20) {
			n := 1 + next(9)
			if next(4) == 0 {
				n = 1 << next(25)
			}
			s.Add(next(256)-1, n)
		}
		b, e := Bytes(s)
		if e != nil || len(b) != 5*len(s.Rows()) {
			t.Fatal(e, len(b))
		}
		x, e := Get(b)
		if e != nil || !Same(x, s) || !slices.Equal(x.Rows(), s.Rows()) || x.Len() != s.Len() {
			t.Fatal(e)
		}
		// It is one to which more can be added.
		rows := s.Rows()
		if len(rows) == 0 {
			continue
		}
		last := rows[len(rows)-1]
		if !x.Add(last.Id, 3) || x.Len() != s.Len()+3 || len(x.Rows()) != len(rows) {
			t.Fatal(x.Rows())
		}
	}
}

// refuses holds that bytes are no strip's.
func refuses(t *testing.T, text string, k api.Errno, at int) {
	t.Helper()
	if s, e := Get(text); s != nil || !fails(e, k, at) {
		t.Fatalf("%.60q %v %v", text, s, e)
	}
}

func TestGetShort(t *testing.T) { // P27.1: the place of the row that isn't all there
	const text = "\x01\x00\x00\x00\x02\x00\x00\x00\x00\x01\xff\x00\x00\x01\x00"
	for n := range len(text) + 1 {
		if n%5 != 0 {
			refuses(t, text[:n], api.ErrShort, n/5*5)
		} else if s, e := Get(text[:n]); e != nil || len(s.Rows()) != n/5 {
			t.Error(n, e)
		}
	}
	// A row that isn't all there is told of as that, whatever is there of it.
	refuses(t, "\x01\x00\x00\x00\x01\x01\x00\x00\x00", api.ErrShort, 5)
	refuses(t, "\x01\x00\x00\x00\x01\x02\xff\xff\xff", api.ErrShort, 5)
	refuses(t, "\x00", api.ErrShort, 0)
	refuses(t, "\xff\xff\xff\xff", api.ErrShort, 0)
}

func TestGetForm(t *testing.T) { // P27.1: no ticks, or the owner of the row ahead
	refuses(t, "\x01\x00\x00\x00\x00", api.ErrForm, 0)
	refuses(t, "\x00\x00\x00\x00\x00", api.ErrForm, 0)
	refuses(t, "\x01\x00\x00\x00\x01\x02\x00\x00\x00\x00", api.ErrForm, 5)
	refuses(t, "\x01\x00\x00\x00\x01\x01\x00\x00\x00\x01", api.ErrForm, 5)
	refuses(t, "\x00\x00\x00\x00\x01\x00\x00\x00\x00\x01", api.ErrForm, 5) // nobody's, twice
	refuses(t, "\xff\x00\x00\x00\x01\x00\x00\x00\x00\x01\x00\x00\x00\x00\x09", api.ErrForm, 10)
	refuses(t, "\x01\x00\x00\x00\x01\x02\x00\x00\x00\x01\x01\x00\x00\x00\x00", api.ErrForm, 10)
	// Not the one ahead, but one ahead of that.
	if s, e := Get("\x01\x00\x00\x00\x01\x02\x00\x00\x00\x01\x01\x00\x00\x00\x01"); e != nil || !slices.Equal(s.Word(), []int{0, 1, 0}) {
		t.Error(e)
	}
	// Nobody's may be the first row.
	if s, e := Get("\x00\x00\x00\x00\x02"); e != nil || !slices.Equal(s.Word(), []int{-1, -1}) {
		t.Error(e)
	}
}

func TestGetMany(t *testing.T) { // P27.1: the row by which there are more than 2^30 ticks
	refuses(t, "\x01\x40\x00\x00\x01", api.ErrMany, 0)
	refuses(t, "\x01\x80\x00\x00\x00", api.ErrMany, 0)
	refuses(t, "\x01\xff\xff\xff\xff", api.ErrMany, 0)
	refuses(t, "\x01\x40\x00\x00\x00\x02\x00\x00\x00\x01", api.ErrMany, 5)
	refuses(t, "\x01\x3f\xff\xff\xff\x02\x00\x00\x00\x02", api.ErrMany, 5)
	refuses(t, "\x01\x20\x00\x00\x00\x02\x10\x00\x00\x00\x01\x10\x00\x00\x01", api.ErrMany, 10)
	refuses(t, "\x01\x00\x00\x00\x01\x02\xff\xff\xff\xff", api.ErrMany, 5)
	refuses(t, "\x01\x00\x00\x00\x01\x02\xc0\x00\x00\x00", api.ErrMany, 5)
	if s, e := Get("\x01\x20\x00\x00\x00\x02\x10\x00\x00\x00\x01\x10\x00\x00\x00"); e != nil || s.Len() != full || s.Count(0) != 1<<29+1<<28 {
		t.Error(e)
	}
	if s, e := Get("\x01\x3f\xff\xff\xff\x02\x00\x00\x00\x01"); e != nil || s.Len() != full {
		t.Error(e)
	}
}

func TestGetOrder(t *testing.T) { // P27.1: row by row, and of one row in the order that is told
	refuses(t, "\x01\x00\x00\x00\x00\x01\x00\x00", api.ErrForm, 0)                                     // ahead of what is short
	refuses(t, "\x01\x40\x00\x00\x01\x01\x00\x00\x00\x00", api.ErrMany, 0)                             // ahead of what is of no form
	refuses(t, "\x01\x00\x00\x00\x01\x01\x40\x00\x00\x00", api.ErrForm, 5)                             // both: the owner ahead, and too many
	refuses(t, "\x01\x40\x00\x00\x00\x01\x00\x00\x00\x01", api.ErrForm, 5)                             // so, too
	refuses(t, "\x01\x40\x00\x00\x00\x02\x00\x00\x00\x00", api.ErrForm, 5)                             // no ticks, of a full one
	refuses(t, "\x01\x00\x00\x00\x01\x01\x00\x00\x00\x01\x02\x40\x00\x00\x00", api.ErrForm, 5)         // ahead of too many
	refuses(t, "\x01\x40\x00\x00\x00\x02\x00\x00\x00\x01\x02\x00\x00\x00\x01\x03", api.ErrMany, 5)     // ahead of all behind
	refuses(t, "\x01\x00\x00\x00\x01\x02\x00\x00\x00\x01"+strings.Repeat("\x09", 9), api.ErrShort, 15) // nothing is wrong ahead of it
}

// modelled is what bytes are, or the class and the place of what is wrong with them.
func modelled(text string) ([]Row, api.Errno, int) {
	var l []Row
	ticks := uint64(0)
	for at := 0; at < len(text); at += 5 {
		if at+5 > len(text) {
			return nil, api.ErrShort, at
		}
		r := Row{Id: int(text[at]) - 1}
		for _, c := range []byte(text[at+1 : at+5]) {
			r.Count = r.Count*256 + int(c)
		}
		if r.Count == 0 || len(l) > 0 && l[len(l)-1].Id == r.Id {
			return nil, api.ErrForm, at
		}
		if ticks += uint64(r.Count); ticks > full {
			return nil, api.ErrMany, at
		}
		l = append(l, r)
	}
	return l, api.OK, 0
}

func TestGetModel(t *testing.T) { // P27.1, P27.2: any bytes; of what is got just these are the bytes
	next := ruled(6)
	seen := map[api.Errno]int{}
	for range 40000 {
		var b []byte
		for range next(6) {
			row := []byte{byte(next(256)), 0, 0, 0, byte(1 + next(255))}
			switch next(12) {
			case 0:
				row[4] = 0
			case 1:
				row[1] = byte(next(66))
			case 2, 3:
				row[0] = byte(next(2))
			case 4:
				row[1+next(4)] = byte(next(256))
			}
			b = append(b, row...)
		}
		text := string(b[:max(0, len(b)-next(2)*next(6))])
		rows, k, at := modelled(text)
		seen[k]++
		if k != api.OK {
			refuses(t, text, k, at)
			continue
		}
		s, e := Get(text)
		if e != nil || !slices.Equal(s.Rows(), rows) {
			t.Fatalf("%q %v", text, e)
		}
		if again, e := Bytes(s); again != text || e != nil {
			t.Fatalf("%q %q %v", text, again, e)
		}
	}
	for _, k := range []api.Errno{api.OK, api.ErrShort, api.ErrForm, api.ErrMany} {
		if seen[k] < 1000 {
			t.Error(k, seen[k])
		}
	}
}

func TestManyRows(t *testing.T) { // P27.1, P27.2: many rows end soon
	s := New()
	for i := range 200000 {
		s.Add(i%3-1, 1+i%2)
	}
	b, e := Bytes(s)
	x, no := Get(b)
	if e != nil || no != nil || len(b) != 1000000 || !Same(x, s) {
		t.Fatal(e, no, len(b))
	}
	for i := range 100000 {
		if id, ok := s.At(3*i + 1); id != (2*i+1)%3-1 || !ok {
			t.Fatal(i, id, ok)
		}
	}
	for from := 0; from < 290000; from += 7 {
		if p := s.Part(from, from+6); len(p.Rows()) < 4 || p.Len() != 6 {
			t.Fatal(from, p.Rows())
		}
	}
}
