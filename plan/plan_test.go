package plan

import (
	"math"
	"slices"
	"testing"

	"countwheel/api"
	"countwheel/fault"
	"countwheel/need"
	"countwheel/window"
)

// odd are numbers that hardly anything may be.
var odd = []int{math.MinInt, math.MinInt + 1, -1 << 40, -4097, -4096, -256, -2, -1, 0, 256, 257, 4097, 8192, 1 << 20, 1 << 32, 1 << 40, 1 << 62, math.MaxInt - 1, math.MaxInt}

// ruled is a row of numbers that a rule makes, each of which is below what it is asked with.
func ruled(x uint64) func(n int) int {
	return func(n int) int {
		x = x*6364136223846793005 + 1442695040888963407
		return int(x>>33) % n
	}
}

// piece is what a need asks for in one of its periods.
type piece struct{ number, id, from, to, budget int }

// pieces are all that needs ask for in a frame, by where they end, then by their ids.
func pieces(frame int, needs []api.Need) []piece {
	var l []piece
	for to := 1; to <= frame; to++ {
		for i, n := range needs {
			if to%n.Period == 0 {
				l = append(l, piece{i, n.Id, to - n.Period, to, n.Budget})
			}
		}
	}
	return l
}

// modelMake goes piece by piece instead of tick by tick: what ends first takes the first ticks that are left in its period.
// The second answer is the number of the need that is late first, or -1.
func modelMake(frame int, needs []api.Need) ([]int, int) {
	word := slices.Repeat([]int{-1}, frame)
	for _, p := range pieces(frame, needs) {
		left := p.budget
		for t := p.from; t < p.to && left > 0; t++ {
			if word[t] == -1 {
				word[t] = p.id
				left--
			}
		}
		if left > 0 {
			return nil, p.number
		}
	}
	return word, -1
}

// possible tells whether there is a plan at all: no part of the frame has to take more than its ticks.
func possible(frame int, needs []api.Need) bool {
	l := pieces(frame, needs)
	for from := range frame {
		for to := from + 1; to <= frame; to++ {
			sum := 0
			for _, p := range l {
				if p.from >= from && p.to <= to {
					sum += p.budget
				}
			}
			if sum > to-from {
				return false
			}
		}
	}
	return true
}

// meets tells whether each need has its budget in each of its periods of a word.
func meets(word []int, needs []api.Need) bool {
	for _, n := range needs {
		for from := 0; from < len(word); from += n.Period {
			have := 0
			for _, id := range word[from : from+n.Period] {
				if id == n.Id {
					have++
				}
			}
			if have < n.Budget {
				return false
			}
		}
	}
	return true
}

// modelWrong is what is wrong with a frame and needs by themselves.
func modelWrong(frame int, needs []api.Need) api.Fault {
	if frame < 1 || frame > 4096 {
		return api.Fault{Error: api.ErrRange}
	}
	for i, n := range needs {
		if n.Id < 0 || n.Id > 255 {
			return api.Fault{Error: api.ErrRange, At: i}
		}
		if i > 0 && needs[i-1].Id >= n.Id {
			return api.Fault{Error: api.ErrOrder, At: i}
		}
		if n.Period <= 0 || n.Period > frame || frame/n.Period*n.Period != frame {
			return api.Fault{Error: api.ErrPeriod, At: i}
		}
		if n.Budget < 0 || n.Budget > n.Period {
			return api.Fault{Error: api.ErrBudget, At: i}
		}
	}
	return api.Fault{}
}

// divisors are the numbers that divide another one.
func divisors(n int) []int {
	var l []int
	for d := 1; d <= n; d++ {
		if n%d == 0 {
			l = append(l, d)
		}
	}
	return l
}

// some are needs that are right for a frame, and often work.
func some(next func(n int) int, frame, most int) []api.Need {
	var l []api.Need
	id := next(3)
	ds := divisors(frame)
	for range next(most + 1) {
		p := ds[next(len(ds))]
		budget := next(p/2 + 2)
		if next(9) == 0 {
			budget = next(p + 1)
		}
		l = append(l, api.Need{Id: id, Period: p, Budget: min(budget, p)})
		id += 1 + next(5)
	}
	return l
}

// runsOf are rows of one owner, told another way: tick by tick onto the last window.
func runsOf(word []int) []api.Window {
	var l []api.Window
	for t, id := range word {
		n := len(l)
		switch {
		case id == -1:
		case n > 0 && l[n-1].Id == id && l[n-1].Offset+l[n-1].Length == t:
			l[n-1].Length++
		default:
			l = append(l, api.Window{Id: id, Offset: t, Length: 1})
		}
	}
	return l
}

// makes holds Make, Schedule and Load to what the model makes of a frame and needs.
func makes(t *testing.T, frame int, needs []api.Need) {
	t.Helper()
	want := modelWrong(frame, needs)
	load := want.Error
	var word []int
	if want == (api.Fault{}) {
		late := -1
		if word, late = modelMake(frame, needs); late >= 0 {
			want = api.Fault{Error: api.ErrBudget, At: late}
		}
	}
	got, e := Make(frame, needs)
	if fault.Of(e) != want || !slices.Equal(got, word) {
		t.Fatalf("Make(%d, %v): %v, %v, not %v, %v", frame, needs, got, e, word, want)
	}
	schedules(t, frame, needs, word, want)
	loads(t, frame, needs, load)
}

// schedules holds Schedule to a word, or to what is wrong.
func schedules(t *testing.T, frame int, needs []api.Need, word []int, want api.Fault) {
	t.Helper()
	l := runsOf(word)
	if len(l) > 256 {
		want = api.Fault{Error: api.ErrMany}
	}
	x, e := Schedule(frame%7, frame, needs)
	if fault.Of(e) != want {
		t.Fatalf("Schedule(%d, %v): %v, not %v", frame, needs, e, want)
	}
	if e != nil {
		if x.Id != 0 || x.Frame != 0 || len(x.Windows) != 0 || len(x.Needs) != 0 {
			t.Fatal(x, e)
		}
		return
	}
	if x.Id != frame%7 || x.Frame != frame || !slices.Equal(x.Windows, l) || !slices.Equal(x.Needs, needs) {
		t.Fatalf("Schedule(%d, %v): %v", frame, needs, x)
	}
}

// loads holds Load to what a sum of all pieces is, or to a class.
func loads(t *testing.T, frame int, needs []api.Need, k api.Errno) {
	t.Helper()
	sum := 0
	if k == api.OK {
		for _, p := range pieces(frame, needs) {
			sum += p.budget
		}
	}
	if n, got := Load(frame, needs); n != sum || got != k {
		t.Fatalf("Load(%d, %v): %d, %v, not %d, %v", frame, needs, n, got, sum, k)
	}
}

func TestExample(t *testing.T) { // P32.1: the chapter's
	needs := []api.Need{{Id: 0, Period: 2, Budget: 1}, {Id: 1, Period: 4, Budget: 2}}
	if w, e := Make(4, needs); !slices.Equal(w, []int{0, 1, 0, 1}) || e != nil {
		t.Error(w, e)
	}
	if n, k := Load(4, needs); n != 4 || k != api.OK {
		t.Error(n, k)
	}
}

func TestMakeByHand(t *testing.T) { // P32.1: whose period ends first, then the least id, then nobody
	for _, y := range []struct {
		frame int
		needs []api.Need
		want  []int
	}{
		{1, nil, []int{-1}},
		{3, []api.Need{}, []int{-1, -1, -1}},
		{3, []api.Need{{Id: 255, Period: 3, Budget: 3}}, []int{255, 255, 255}},
		{4, []api.Need{{Id: 9, Period: 2, Budget: 1}}, []int{9, -1, 9, -1}},
		{4, []api.Need{{Id: 9, Period: 2}, {Id: 10, Period: 4}}, []int{-1, -1, -1, -1}},
		{4, []api.Need{{Id: 3, Period: 4, Budget: 1}, {Id: 4, Period: 4, Budget: 2}}, []int{3, 4, 4, -1}},
		{4, []api.Need{{Id: 3, Period: 4, Budget: 2}, {Id: 4, Period: 2, Budget: 1}}, []int{4, 3, 3, 4}},
		// In its last periods both end together, and the least id is ahead, though its period is longer.
		{6, []api.Need{{Id: 1, Period: 6, Budget: 3}, {Id: 2, Period: 2, Budget: 1}}, []int{2, 1, 2, 1, 1, 2}},
		// By the least period first, the need of 3 in 6 would be late.
		{6, []api.Need{{Id: 0, Period: 3, Budget: 1}, {Id: 1, Period: 6, Budget: 4}}, []int{0, 1, 1, 0, 1, 1}},
		{4, []api.Need{{Id: 0, Period: 1, Budget: 1}, {Id: 1, Period: 4}}, []int{0, 0, 0, 0}},
	} {
		if w, e := Make(y.frame, y.needs); !slices.Equal(w, y.want) || e != nil {
			t.Error(y, w, e)
		}
		makes(t, y.frame, y.needs)
	}
}

func TestLate(t *testing.T) { // P32.1: which need is told, and that it is told by its number
	for _, y := range []struct {
		frame int
		needs []api.Need
		at    int
	}{
		{4, []api.Need{{Id: 0, Period: 2, Budget: 2}, {Id: 1, Period: 4, Budget: 1}}, 1},
		// In the second period of 9 both end together, so that 7 gets its tick, and 9 is late.
		{4, []api.Need{{Id: 7, Period: 4, Budget: 1}, {Id: 9, Period: 2, Budget: 2}}, 1},
		{1, []api.Need{{Id: 7, Period: 1, Budget: 1}, {Id: 9, Period: 1, Budget: 1}}, 1},
		// Of two that are late at once, the one ahead in the list.
		{2, []api.Need{{Id: 7, Period: 2, Budget: 2}, {Id: 9, Period: 1, Budget: 1}}, 0},
		{2, []api.Need{{Id: 5, Period: 1, Budget: 1}, {Id: 6, Period: 2, Budget: 1}, {Id: 8, Period: 2, Budget: 1}}, 1},
		// The one whose period ends first, though another one stands ahead.
		{4, []api.Need{{Id: 5, Period: 4, Budget: 4}, {Id: 6, Period: 2, Budget: 1}, {Id: 8, Period: 2, Budget: 2}}, 2},
		// Late at the frame's end alone, in its second period.
		{6, []api.Need{{Id: 0, Period: 6, Budget: 4}, {Id: 1, Period: 3, Budget: 1}, {Id: 2, Period: 6, Budget: 1}}, 2},
	} {
		w, e := Make(y.frame, y.needs)
		if fault.Of(e) != (api.Fault{Error: api.ErrBudget, At: y.at}) || len(w) != 0 || fault.Depth(e) != 1 {
			t.Error(y, w, e)
		}
		makes(t, y.frame, y.needs)
	}
}

func TestWrong(t *testing.T) { // P32.1: what is wrong with a frame and needs, and what is told first
	good := []api.Need{{Id: 0, Period: 2, Budget: 1}, {Id: 3, Period: 4}}
	for _, frame := range odd {
		want := api.Fault{}
		if frame < 1 || frame > 4096 {
			want.Error = api.ErrRange
		}
		for _, l := range [][]api.Need{nil, good, {{Id: -1}}, {{Id: 4}, {Id: 4}}} {
			if w, e := Make(frame, l); want != (api.Fault{}) && (fault.Of(e) != want || fault.Depth(e) != 0 || len(w) != 0) {
				t.Error(frame, l, e)
			}
			makes(t, frame, l)
		}
	}
	for _, y := range []struct {
		n    api.Need
		want string
	}{
		{api.Need{Id: -1, Period: 2}, "at 2: range"},
		{api.Need{Id: 256, Period: 2}, "at 2: range"},
		{api.Need{Id: 256, Period: 0, Budget: -1}, "at 2: range"},
		{api.Need{Id: 3, Period: 2}, "at 2: order"},
		{api.Need{Id: 2, Period: 5, Budget: 9}, "at 2: order"},
		{api.Need{Id: 4, Period: 0}, "at 2: period"},
		{api.Need{Id: 4, Period: -1}, "at 2: period"},
		{api.Need{Id: 4, Period: -4, Budget: 9}, "at 2: period"},
		{api.Need{Id: 4, Period: 3, Budget: 9}, "at 2: period"},
		{api.Need{Id: 4, Period: 8, Budget: 1}, "at 2: period"},
		{api.Need{Id: 4, Period: 4, Budget: -1}, "at 2: budget"},
		{api.Need{Id: 4, Period: 2, Budget: 3}, "at 2: budget"},
		{api.Need{Id: 255, Period: 4, Budget: 2}, ""},
		{api.Need{Id: 4, Period: 2, Budget: 2}, "at 2: budget"}, // late
	} {
		l := append(slices.Clone(good), y.n)
		if _, e := Make(4, l); fault.Text(e) != y.want {
			t.Error(y, e)
		}
		makes(t, 4, l)
		// Of two wrong ones the first counts, and what is wrong by itself goes ahead of what is late.
		makes(t, 4, append(l, api.Need{Id: 5, Period: 3}))
		makes(t, 4, append([]api.Need{{Id: 0, Period: 1, Budget: 1}, {Id: 1, Period: 2, Budget: 1}}, y.n))
	}
}

func TestEachNumberWrong(t *testing.T) { // P32.1: odd numbers in each field
	for _, v := range odd {
		for _, n := range []api.Need{{Id: v, Period: 2, Budget: 1}, {Id: 2, Period: v, Budget: 1}, {Id: 2, Period: 2, Budget: v}, {Id: v, Period: v, Budget: v}} {
			makes(t, 4, []api.Need{n})
			makes(t, 4, []api.Need{{Id: 1, Period: 4}, n})
			makes(t, 4, []api.Need{n, {Id: 3, Period: 4, Budget: 4}})
			makes(t, v, []api.Need{n})
		}
	}
}

func TestMakeAny(t *testing.T) { // P32.1, P32.2: any needs; what has a plan at all is planned, and meets its needs
	next := ruled(32)
	worked, late := 0, 0
	for range 3000 {
		frame := 1 + next(24)
		needs := some(next, frame, 6)
		makes(t, frame, needs)
		word, e := Make(frame, needs)
		if (e == nil) != possible(frame, needs) {
			t.Fatal(frame, needs, e)
		}
		if e != nil {
			late++
			continue
		}
		worked++
		var ids []int
		for _, n := range needs {
			ids = append(ids, n.Id)
		}
		x, _ := Schedule(5, frame, needs)
		if !meets(word, needs) || window.Check(x, ids) != nil || need.Check(x, ids) != nil || !slices.Equal(window.Word(x), word) {
			t.Fatal(frame, needs, word)
		}
	}
	if worked < 500 || late < 500 {
		t.Error(worked, late)
	}
}

func TestMakeFull(t *testing.T) { // P32.2: needs that take all of a frame have a plan, if no sum is above it
	next := ruled(5)
	for range 300 {
		frame := []int{12, 24, 36, 60}[next(4)]
		ds := divisors(frame)
		var needs []api.Need
		left := frame
		for id := 0; id < 12; id++ {
			p := ds[next(len(ds))]
			budget := min(next(p+1), left/(frame/p))
			left -= budget * (frame / p)
			needs = append(needs, api.Need{Id: id, Period: p, Budget: budget})
		}
		if left > 0 {
			needs = append(needs, api.Need{Id: 200, Period: frame, Budget: left})
		}
		word, e := Make(frame, needs)
		if e != nil || slices.Contains(word, -1) || !meets(word, needs) {
			t.Fatal(frame, needs, word, e)
		}
		makes(t, frame, needs)
		// One tick more has none: it is late.
		more := append(slices.Clone(needs), api.Need{Id: 255, Period: frame, Budget: 1})
		if _, e := Make(frame, more); !fault.Is(e, api.ErrBudget) {
			t.Fatal(frame, more, e)
		}
		makes(t, frame, more)
	}
}

func TestGreat(t *testing.T) { // P32.1: the longest frame, and as many needs as may be
	var needs []api.Need
	for id := range 256 {
		needs = append(needs, api.Need{Id: id, Period: 4096 >> (id % 4), Budget: 1 + id%8})
	}
	makes(t, 4096, needs)
	makes(t, 4096, []api.Need{{Id: 0, Period: 4096, Budget: 4096}})
	makes(t, 4096, append(slices.Clone(needs), api.Need{Id: 256, Period: 1}))
	makes(t, 4096, append(slices.Clone(needs), api.Need{Id: 255, Period: 1}))
	makes(t, 4097, needs)
	if _, e := Make(4095, []api.Need{{Id: 0, Period: 4095, Budget: 1}}); e != nil {
		t.Error(e)
	}
}

func TestManyWindows(t *testing.T) { // P32.1: 256 windows, and one more
	every := func(n int) []api.Need { return []api.Need{{Id: 1, Period: n, Budget: 1}} }
	x, e := Schedule(-3, 512, every(2))
	if e != nil || len(x.Windows) != 256 || x.Id != -3 || x.Windows[255] != (api.Window{Id: 1, Offset: 510, Length: 1}) {
		t.Error(len(x.Windows), e)
	}
	x, e = Schedule(1, 514, every(2))
	if fault.Text(e) != "many" || x.Id != 0 || x.Frame != 0 || len(x.Windows) != 0 || len(x.Needs) != 0 {
		t.Error(x, e)
	}
	if w, e := Make(514, every(2)); len(w) != 514 || e != nil {
		t.Error(len(w), e)
	}
	// What is wrong otherwise goes ahead.
	if _, e = Schedule(1, 514, append(every(2), api.Need{Id: 2, Period: 1, Budget: 1})); fault.Text(e) != "at 1: budget" {
		t.Error(e)
	}
	if _, e = Schedule(1, 514, append(every(2), api.Need{Id: 2, Period: 3})); fault.Text(e) != "at 1: period" {
		t.Error(e)
	}
}

func TestScheduleTakesAnyId(t *testing.T) { // P32.1: the id is told as it is, and needs as they are
	for _, id := range odd {
		x, e := Schedule(id, 4, []api.Need{{Id: 2, Period: 4, Budget: 1}, {Id: 9, Period: 2}})
		if e != nil || x.Id != id || x.Frame != 4 || len(x.Windows) != 1 || !slices.Equal(x.Needs, []api.Need{{Id: 2, Period: 4, Budget: 1}, {Id: 9, Period: 2}}) {
			t.Error(id, x, e)
		}
	}
	var needs []api.Need
	for id := range 40 {
		needs = append(needs, api.Need{Id: id, Period: 40, Budget: 1})
	}
	if x, e := Schedule(1, 40, needs); e != nil || len(x.Needs) != 40 || len(x.Windows) != 40 {
		t.Error(x, e)
	}
}

func TestLoad(t *testing.T) { // P32.1: also of needs that don't work
	if n, k := Load(4, []api.Need{{Id: 0, Period: 1, Budget: 1}, {Id: 1, Period: 2, Budget: 2}}); n != 8 || k != api.OK {
		t.Error(n, k)
	}
	var l []api.Need
	for id := range 256 {
		l = append(l, api.Need{Id: id, Period: 1, Budget: 1})
	}
	if n, k := Load(4096, l); n != 1<<20 || k != api.OK {
		t.Error(n, k)
	}
	if n, k := Load(1, nil); n != 0 || k != api.OK {
		t.Error(n, k)
	}
}

// modelSpread is the longest row, told by trying each row from each tick of its own on.
func modelSpread(word []int, id int) int {
	longest, has := 0, false
	for from := range word {
		if word[from] != id {
			continue
		}
		has = true
		n := 0
		for word[(from+n+1)%len(word)] != id {
			n++
		}
		longest = max(longest, n)
	}
	if !has {
		return len(word)
	}
	return longest
}

// modelSwitches is how often an owner changes: as many times as there are runs, but where the last one goes on in the first one.
func modelSwitches(word []int) int {
	if len(word) == 0 {
		return 0
	}
	n := len(slices.CompactFunc(slices.Clone(word), func(a, b int) bool { return a == b }))
	if word[0] == word[len(word)-1] {
		n--
	}
	return n
}

func TestOfWords(t *testing.T) { // P32.1: Windows, Switches and Spread of any words
	next := ruled(7)
	ids := []int{-1, 0, 3, -2, 256, math.MaxInt, math.MinInt}
	for range 4000 {
		kinds := 1 + next(len(ids))
		word := make([]int, next(14))
		for i := range word {
			word[i] = ids[next(kinds)]
		}
		if l := Windows(word); !slices.Equal(l, runsOf(word)) {
			t.Fatal(word, l)
		}
		if n := Switches(word); n != modelSwitches(word) {
			t.Fatal(word, n)
		}
		for _, id := range append(ids, 77) {
			if n := Spread(word, id); n != modelSpread(word, id) {
				t.Fatal(word, id, n)
			}
		}
	}
}

func TestOfWordsByHand(t *testing.T) { // P32.1: the edges of Windows, Switches and Spread
	if l := Windows(nil); len(l) != 0 {
		t.Error(l)
	}
	if l := Windows([]int{-1, -1}); len(l) != 0 {
		t.Error(l)
	}
	if l := Windows([]int{-1, 4, 4, -1, 4, 5}); !slices.Equal(l, []api.Window{{Id: 4, Offset: 1, Length: 2}, {Id: 4, Offset: 4, Length: 1}, {Id: 5, Offset: 5, Length: 1}}) {
		t.Error(l)
	}
	// The first and the last row aren't one, though the same owner has both.
	if l := Windows([]int{4, 5, 4}); len(l) != 3 {
		t.Error(l)
	}
	for _, y := range []struct {
		word []int
		want int
	}{{nil, 0}, {[]int{1}, 0}, {[]int{-1, -1}, 0}, {[]int{1, 2}, 2}, {[]int{1, 1, 2}, 2}, {[]int{1, -1, 1}, 2}, {[]int{1, 2, 3}, 3}} {
		if n := Switches(y.word); n != y.want {
			t.Error(y, n)
		}
	}
	for _, y := range []struct {
		word     []int
		id, want int
	}{
		{nil, 1, 0}, {nil, -1, 0}, {[]int{2, 2}, 1, 2}, {[]int{1, 1}, 1, 0}, {[]int{1}, 1, 0},
		{[]int{1, 2, 2, 1, 2}, 1, 2}, {[]int{2, 1, 2, 2}, 1, 3}, {[]int{2, 1, 2, 1, 2, 2}, 1, 3}, {[]int{-1, 1, 1}, -1, 2},
	} {
		if n := Spread(y.word, y.id); n != y.want {
			t.Error(y, n)
		}
	}
}

func TestNothingShared(t *testing.T) { // P32.1: arguments stay as they are, spare room too, and answers have memory of their own
	room := []api.Need{{Id: 0, Period: 2, Budget: 1}, {Id: 1, Period: 4, Budget: 2}, {Id: 77, Period: 78, Budget: 79}}
	was := slices.Clone(room)
	needs := room[:2]
	word, _ := Make(4, needs)
	x, _ := Schedule(1, 4, needs)
	other, _ := Schedule(1, 4, needs)
	Load(4, needs)
	_ = append(x.Needs, api.Need{Id: 5})
	x.Needs[0].Id = 9
	x.Windows[0].Id = 9
	if !slices.Equal(room, was) || other.Needs[0].Id != 0 || other.Windows[0].Id != 0 {
		t.Error(room, other)
	}
	l := Windows(word[:3])
	Switches(word[:3])
	Spread(word[:3], 0)
	l[0].Id = 8
	if !slices.Equal(word, []int{0, 1, 0, 1}) || Windows(word)[0].Id != 0 {
		t.Error(word)
	}
	word[0] = 9
	if again, _ := Make(4, needs); again[0] != 0 {
		t.Error(again)
	}
}
