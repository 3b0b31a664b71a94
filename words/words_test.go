package words

import (
	"math"
	"math/big"
	"slices"
	"testing"

	"countwheel/api"
	"countwheel/check"
)

// ruled is a row of numbers that a rule makes, each of which is below what it is asked with.
func ruled(x uint64) func(n int) int {
	return func(n int) int {
		x = x*6364136223846793005 + 1442695040888963407
		return int(x>>33) % n
	}
}

// odd are numbers that nothing in a valid module is.
var odd = []int{math.MinInt, math.MinInt + 1, -1 << 33, -256, -2, -1, 256, 257, 1 << 31, 1 << 32, 1<<32 + 1, 1 << 62, math.MaxInt}

// painted is a schedule's word, window by window.
func painted(x api.Schedule) []int {
	l := slices.Repeat([]int{-1}, x.Frame)
	for _, w := range x.Windows {
		for i := range w.Length {
			l[w.Offset+i] = w.Id
		}
	}
	return l
}

// schedule is the one of an id.
func schedule(m api.Module, id int) (api.Schedule, bool) {
	for _, x := range m.Schedules {
		if x.Id == id {
			return x, true
		}
	}
	return api.Schedule{}, false
}

// leads tells whether one schedule may stand behind another one in a run.
func leads(m api.Module, from, to int) bool {
	for _, p := range m.Pairs {
		if p.From == from && p.To == to {
			return true
		}
	}
	return from == to
}

// isRun tells whether a row of ids is a run.
func isRun(m api.Module, run []int) bool {
	for i, id := range run {
		if _, ok := schedule(m, id); !ok || i == 0 && id != m.First || i > 0 && !leads(m, run[i-1], id) {
			return false
		}
	}
	return len(run) > 0
}

// wordOf is the word of a row of schedules that there are.
func wordOf(m api.Module, run []int) []int {
	var l []int
	for _, id := range run {
		x, _ := schedule(m, id)
		l = append(l, painted(x)...)
	}
	return l
}

// explains tells whether a run does that, as the chapter says it.
func explains(m api.Module, run, owners []int) bool {
	if !isRun(m, run) {
		return false
	}
	word, ahead := wordOf(m, run), wordOf(m, run[:len(run)-1])
	return len(word) > len(owners) && len(ahead) <= len(owners) && slices.Equal(word[:len(owners)], owners)
}

// explained are all runs that explain owners, in the order of their first unlike ids.
func explained(m api.Module, ahead, owners []int) [][]int {
	var l [][]int
	for _, x := range m.Schedules { // by their ids: the module is valid
		run := append(slices.Clone(ahead), x.Id)
		if !isRun(m, run) {
			continue
		}
		word := wordOf(m, run)
		switch {
		case explains(m, run, owners):
			l = append(l, run)
		case len(word) <= len(owners) && slices.Equal(word, owners[:len(word)]):
			l = append(l, explained(m, run, owners)...)
		}
	}
	return l
}

// usual is a module of three schedules: in 1 the ticks are 0 - -, in 0 and in 2 they are 0 -; from 1 there is a way to both.
func usual() api.Module {
	return api.Module{
		First: 1,
		Parts: []api.Partition{{Id: 0, Name: "A"}},
		Schedules: []api.Schedule{
			{Id: 0, Frame: 2, Windows: []api.Window{{Length: 1}}},
			{Id: 1, Frame: 3, Windows: []api.Window{{Length: 1}}},
			{Id: 2, Frame: 2, Windows: []api.Window{{Length: 1}}},
		},
		Pairs: []api.Pair{{From: 1, To: 0}, {From: 1, To: 2}},
	}
}

// mixed is a valid module of few, short schedules, so that much is explained in several ways.
func mixed(t *testing.T, next func(n int) int) api.Module {
	t.Helper()
	m := api.Module{Parts: []api.Partition{{Id: 0, Name: "A"}, {Id: 3, Name: "B"}}}
	id := next(3)
	for range 1 + next(4) {
		x := api.Schedule{Id: id, Frame: 1 + next(4)}
		for at := next(2); at < x.Frame; at += next(2) {
			w := api.Window{Id: 3 * next(2), Offset: at, Length: min(1+next(2), x.Frame-at)}
			x.Windows = append(x.Windows, w)
			at += w.Length
		}
		m.Schedules = append(m.Schedules, x)
		id += 1 + next(4)
	}
	m.First = m.Schedules[next(len(m.Schedules))].Id
	for _, a := range m.Schedules {
		for _, b := range m.Schedules {
			if a.Id != b.Id && next(2) == 0 {
				m.Pairs = append(m.Pairs, api.Pair{From: a.Id, To: b.Id})
			}
		}
	}
	if e := check.Module(m); e != nil {
		t.Fatal(m, e)
	}
	return m
}

// walked is a run of a valid module.
func walked(next func(n int) int, m api.Module, frames int) []int {
	run := []int{m.First}
	for len(run) < frames {
		id := m.Schedules[next(len(m.Schedules))].Id
		if leads(m, run[len(run)-1], id) {
			run = append(run, id)
		}
	}
	return run
}

// anyRow is a row of ids, most of which are schedules', and that need not be a run.
func anyRow(next func(n int) int, m api.Module) []int {
	run := walked(next, m, 1+next(6))
	switch next(5) {
	case 0:
		run[next(len(run))] = next(12)
	case 1:
		run[next(len(run))] = odd[next(len(odd))]
	case 2:
		run = run[1:]
	}
	return run
}

func TestExample(t *testing.T) { // P28.1
	m := api.Module{Parts: []api.Partition{{Name: "A"}}, Schedules: []api.Schedule{{Frame: 2}}}
	if run, ok := Explain(m, []int{-1, -1, -1}); !ok || !slices.Equal(run, []int{0, 0}) {
		t.Error(run, ok)
	}
}

func TestRun(t *testing.T) { // P28.1
	m := usual()
	for _, run := range [][]int{{1}, {1, 1}, {1, 0}, {1, 2}, {1, 1, 1, 2, 2, 2}, {1, 0, 0}} {
		if !Run(m, run) {
			t.Error(run)
		}
	}
	for _, run := range [][]int{nil, {}, {0}, {2}, {0, 0}, {1, 0, 1}, {1, 0, 2}, {1, 2, 0}, {1, 3}, {3}, {-1}, {1, -1}, {1, 1, 9}, {9, 9}, {0, 1}} {
		if Run(m, run) {
			t.Error(run)
		}
	}
	next := ruled(1)
	runs, none := 0, 0
	for range 6000 {
		m := mixed(t, next)
		run := anyRow(next, m)
		want := isRun(m, run)
		if Run(m, run) != want {
			t.Fatal(m, run)
		}
		if want {
			runs++
		} else {
			none++
		}
	}
	if runs < 1000 || none < 1000 {
		t.Error(runs, none)
	}
}

func TestWord(t *testing.T) { // P28.1: of any row of schedules, also one that is no run
	m := usual()
	for _, r := range []struct{ run, want []int }{
		{nil, nil}, {[]int{}, nil}, {[]int{1}, []int{0, -1, -1}}, {[]int{0}, []int{0, -1}}, {[]int{1, 0}, []int{0, -1, -1, 0, -1}},
		{[]int{0, 1, 1, 2}, []int{0, -1, 0, -1, -1, 0, -1, -1, 0, -1}},
	} {
		if w, k := Word(m, r.run); k != api.OK || !slices.Equal(w, r.want) {
			t.Error(r.run, w, k)
		}
	}
	for _, id := range append(slices.Clone(odd), 3, 4, 200, 255) {
		for _, run := range [][]int{{id}, {id, 1}, {1, id}, {1, 0, id, 0}, {id, id}} {
			if w, k := Word(m, run); k != api.ErrRef || len(w) != 0 {
				t.Error(run, w, k)
			}
		}
	}
	next := ruled(2)
	refs := 0
	for range 4000 {
		m := mixed(t, next)
		run := anyRow(next, m)
		known := true
		for _, id := range run {
			_, ok := schedule(m, id)
			known = known && ok
		}
		w, k := Word(m, run)
		if !known {
			refs++
			if k != api.ErrRef || len(w) != 0 {
				t.Fatal(m, run, w, k)
			}
		} else if k != api.OK || !slices.Equal(w, wordOf(m, run)) {
			t.Fatal(m, run, w, k)
		}
	}
	if refs < 500 {
		t.Error(refs)
	}
}

func TestExplainWrittenOut(t *testing.T) { // P28.1
	m := usual()
	for _, r := range []struct{ owners, want []int }{
		{nil, []int{1}},                                      // the frame that runs, of which no tick is there yet
		{[]int{}, []int{1}},                                  //
		{[]int{0}, []int{1}},                                 //
		{[]int{0, -1}, []int{1}},                             //
		{[]int{0, -1, -1}, []int{1, 0}},                      // all of the first frame: another one runs
		{[]int{0, -1, -1, 0}, []int{1, 0}},                   //
		{[]int{0, -1, -1, 0, -1}, []int{1, 0, 0}},            // 1 1 explains it, too
		{[]int{0, -1, -1, 0, -1, 0}, []int{1, 0, 0}},         //
		{[]int{0, -1, -1, 0, -1, -1}, []int{1, 1, 0}},        // here 0 behind the first 1 does not
		{[]int{0, -1, -1, 0, -1, -1, 0}, []int{1, 1, 0}},     //
		{[]int{0, -1, -1, 0, -1, 0, -1}, []int{1, 0, 0, 0}},  //
		{[]int{0, -1, -1, 0, -1, 0, -1, -1}, nil},            // behind 0 nothing but 0 may stand
		{[]int{-1}, nil},                                     //
		{[]int{0, 0}, nil},                                   //
		{[]int{0, -1, 0}, nil},                               // First is 1
		{[]int{1}, nil},                                      //
		{[]int{0, -1, -1, -1}, nil},                          //
		{[]int{0, -1, -1, 0, -1, -1, 0, -1, -1, 0, 1}, nil},  // right up to the last one
		{[]int{math.MaxInt}, nil},                            //
		{[]int{0, math.MinInt}, nil},                         //
		{[]int{0, -1, -1, 0, -1, -1, -1, 0, -1}, nil},        //
		{[]int{0, -1, -1, 0, -1, 0, -1, 0, -1, 0, -2}, nil},  //
		{[]int{0, -1, -1, 0, -1, 0, -1, -1, 0, -1, -1}, nil}, //
	} {
		if run, ok := Explain(m, r.owners); ok != (r.want != nil) || !slices.Equal(run, r.want) {
			t.Error(r.owners, run, ok)
		}
	}
}

func TestExplainModel(t *testing.T) { // P28.1: the first of all runs that explain
	next := ruled(3)
	several, found, none := 0, 0, 0
	for range 3000 {
		m := mixed(t, next)
		word := wordOf(m, walked(next, m, 1+next(5)))
		owners := word[:next(len(word)+1)]
		if next(3) == 0 && len(owners) > 0 {
			owners[next(len(owners))] = []int{-1, 0, 3, 4, -2}[next(5)]
		}
		all := explained(m, nil, owners)
		run, ok := Explain(m, owners)
		if len(all) == 0 {
			none++
			if ok || len(run) != 0 {
				t.Fatal(m, owners, run)
			}
			continue
		}
		found++
		if !ok || !slices.Equal(run, all[0]) || !slices.IsSortedFunc(all, slices.Compare[[]int]) {
			t.Fatal(m, owners, run, all)
		}
		if len(all) > 1 {
			several++
		}
	}
	if several < 300 || found < 1000 || none < 300 {
		t.Error(several, found, none)
	}
}

// tangled is a valid module of many short schedules that look much alike, few of which lead to one another.
func tangled(next func(n int) int) api.Module {
	m := api.Module{Parts: []api.Partition{{Id: 0, Name: "A"}}}
	n := 4 + next(5)
	for id := range n {
		x := api.Schedule{Id: id, Frame: 1 + next(3)}
		if next(3) == 0 {
			x.Windows = []api.Window{{Offset: x.Frame - 1, Length: 1}}
		}
		m.Schedules = append(m.Schedules, x)
	}
	m.First = next(n)
	for from := range n {
		for to := range n {
			if from != to && next(4) == 0 {
				m.Pairs = append(m.Pairs, api.Pair{From: from, To: to})
			}
		}
	}
	return m
}

func TestExplainTangled(t *testing.T) { // P28.1: many ways to one place, of which some go on and some don't
	next := ruled(9)
	found := 0
	for range 4000 {
		m := tangled(next)
		word := wordOf(m, walked(next, m, 5))
		owners := word[:min(len(word), 4+next(5))]
		if next(2) == 0 {
			owners[len(owners)-1] = -1 - owners[len(owners)-1]
		}
		all := explained(m, nil, owners)
		run, ok := Explain(m, owners)
		if ok != (len(all) > 0) || ok && !slices.Equal(run, all[0]) || !ok && len(run) != 0 {
			t.Fatal(m, owners, run, all)
		}
		if ok {
			found++
		}
	}
	if found < 2000 || found > 3900 {
		t.Error(found)
	}
}

// full is a module of as many schedules as there may be, all of which lead to all others, of the ids 0, 16, 32 and so on.
func full(frame func(i int) int) api.Module {
	m := api.Module{Parts: []api.Partition{{Id: 0, Name: "A"}}}
	for i := range api.MaxScheds {
		m.Schedules = append(m.Schedules, api.Schedule{Id: 16 * i, Frame: frame(i)})
		for j := range api.MaxScheds {
			if i != j {
				m.Pairs = append(m.Pairs, api.Pair{From: 16 * i, To: 16 * j})
			}
		}
	}
	return m
}

func TestExplainMany(t *testing.T) { // P28.1: what can't be explained from a place on isn't tried again
	owners := slices.Repeat([]int{-1}, 4096)
	for _, frame := range []func(i int) int{
		func(int) int { return 1 },
		func(i int) int { return 1 + i },
		func(i int) int { return 16 - i },
		func(i int) int { return 60 + i },
	} {
		m := full(frame)
		if e := check.Module(m); e != nil {
			t.Fatal(e)
		}
		run, ok := Explain(m, owners)
		// The least ids are those of the first schedule, again and again.
		if want := slices.Repeat([]int{0}, 4096/frame(0)+1); !ok || !slices.Equal(run, want) {
			t.Error(len(run), ok)
		}
		owners[4095] = 0
		if run, ok := Explain(m, owners); ok || len(run) != 0 {
			t.Error(len(run), ok)
		}
		owners[4095] = -1
	}
	// Just the last schedule has a tick of 0, and just as its last one: 5 frames of 2, and 4086 of 1 ahead.
	m := full(func(i int) int { return 1 + i%2 })
	m.Schedules[15].Windows = []api.Window{{Offset: 1, Length: 1}}
	for i := range 5 {
		owners[4095-2*i] = 0
	}
	run, ok := Explain(m, owners)
	want := append(slices.Repeat([]int{0}, 4086), 240, 240, 240, 240, 240, 0)
	if !ok || !slices.Equal(run, want) {
		t.Error(len(run), ok)
	}
}

func TestExplainLong(t *testing.T) { // P28.1: frames much longer than what was seen
	m := full(func(i int) int { return api.MaxFrame - i })
	m.First = 32
	for _, n := range []int{0, 1, 4096} {
		owners := slices.Repeat([]int{-1}, n)
		if run, ok := Explain(m, owners); !ok || !slices.Equal(run, []int{32}) {
			t.Error(n, run, ok)
		}
	}
	m.Schedules[2].Frame = 4096
	if run, ok := Explain(m, slices.Repeat([]int{-1}, 4095)); !ok || !slices.Equal(run, []int{32}) {
		t.Error(run, ok)
	}
	if run, ok := Explain(m, slices.Repeat([]int{-1}, 4096)); !ok || !slices.Equal(run, []int{32, 0}) {
		t.Error(run, ok)
	}
}

// runsOf are how many runs of so many schedules a valid module has, in numbers of any size.
func runsOf(m api.Module, frames int) *big.Int {
	n := len(m.Schedules)
	ends := make([]*big.Int, n)
	for i, x := range m.Schedules {
		ends[i] = new(big.Int)
		if x.Id == m.First {
			ends[i].SetInt64(1)
		}
	}
	for range frames - 1 {
		longer := make([]*big.Int, n)
		for j, b := range m.Schedules {
			longer[j] = new(big.Int)
			for i, a := range m.Schedules {
				if leads(m, a.Id, b.Id) {
					longer[j].Add(longer[j], ends[i])
				}
			}
		}
		ends = longer
	}
	total := new(big.Int)
	for _, x := range ends {
		total.Add(total, x)
	}
	return total
}

// counts holds how many runs there are.
func counts(t *testing.T, m api.Module, frames int, want *big.Int) {
	t.Helper()
	n := uint64(math.MaxUint64)
	if want.IsUint64() {
		n = want.Uint64()
	}
	if got := Count(m, frames); got != n {
		t.Fatal(m, frames, got, want)
	}
}

func TestCount(t *testing.T) { // P28.1
	next := ruled(4)
	for range 200 {
		m := mixed(t, next)
		for frames := 1; frames < 80; frames += 1 + next(4) {
			counts(t, m, frames, runsOf(m, frames))
		}
		for _, frames := range []int{0, -1, -2, -65537, math.MinInt, -1 << 32} {
			if n := Count(m, frames); n != 0 {
				t.Fatal(frames, n)
			}
		}
	}
}

func TestCountRuns(t *testing.T) { // P28.1: as many as can be written out
	next := ruled(5)
	for range 200 {
		m := mixed(t, next)
		rows := [][]int{nil}
		for frames := 1; frames < 5; frames++ {
			var longer [][]int
			for _, r := range rows {
				for _, x := range m.Schedules {
					longer = append(longer, append(slices.Clone(r), x.Id))
				}
			}
			rows = longer
			n := uint64(0)
			for _, r := range rows {
				if Run(m, r) {
					n++
				}
			}
			if got := Count(m, frames); got != n {
				t.Fatal(m, frames, got, n)
			}
		}
	}
}

// chain is a module of so many schedules, each of which leads to the next one.
func chain(n int) api.Module {
	m := api.Module{Parts: []api.Partition{{Name: "A"}}}
	for i := range n {
		m.Schedules = append(m.Schedules, api.Schedule{Id: i, Frame: 1})
		if i > 0 {
			m.Pairs = append(m.Pairs, api.Pair{From: i - 1, To: i})
		}
	}
	return m
}

func TestCountEdges(t *testing.T) { // P28.1: the most frames, and the greatest number
	// Of a chain: where each of the schedules behind the first one begins is chosen out of all frames but the first one.
	for n := 1; n <= 8; n++ {
		for _, r := range [][2]int{{65535, 65535}, {65536, 65536}, {65537, 65537}, {65538, 65537}, {1 << 17, 65537}, {1 << 32, 65537}, {1<<32 + 5, 65537}, {math.MaxInt, 65537}} {
			want := new(big.Int)
			for k := range n {
				want.Add(want, new(big.Int).Binomial(int64(r[1]-1), int64(k)))
			}
			counts(t, chain(n), r[0], want)
		}
	}
	// Of two that lead to one another: twice as many with each frame.
	two := chain(2)
	two.Pairs = append(two.Pairs, api.Pair{From: 1, To: 0})
	for frames := 1; frames < 130; frames++ {
		counts(t, two, frames, new(big.Int).Lsh(big.NewInt(1), uint(frames-1)))
	}
	if Count(two, 64) != 1<<63 || Count(two, 65) != math.MaxUint64 || Count(two, math.MaxInt) != math.MaxUint64 {
		t.Error(Count(two, 64), Count(two, 65))
	}
	all := full(func(int) int { return 1 })
	for frames := 1; frames < 20; frames++ {
		counts(t, all, frames, new(big.Int).Lsh(big.NewInt(1), uint(4*(frames-1))))
	}
}

func TestFrames(t *testing.T) { // P28.1
	m := usual()
	for _, r := range []struct{ run, want []int }{
		{nil, nil}, {[]int{1}, []int{0}}, {[]int{1, 0, 0}, []int{0, 3, 5}}, {[]int{0, 1, 2, 1}, []int{0, 2, 5, 7}},
		{[]int{9}, nil}, {[]int{9, 1}, nil}, {[]int{1, 9}, []int{0}}, {[]int{1, 0, -1, 0, 0}, []int{0, 3}}, {[]int{1, 1, 3}, []int{0, 3}},
	} {
		if l := Frames(m, r.run); !slices.Equal(l, r.want) {
			t.Error(r.run, l)
		}
	}
	next := ruled(6)
	for range 3000 {
		m := mixed(t, next)
		run := anyRow(next, m)
		l := Frames(m, run)
		for i, id := range run {
			if _, ok := schedule(m, id); !ok {
				run = run[:i]
				break
			}
		}
		if len(l) != len(run) {
			t.Fatal(m, run, l)
		}
		for i := range run {
			if l[i] != len(wordOf(m, run[:i])) {
				t.Fatal(m, run, l)
			}
		}
	}
	long := full(func(int) int { return api.MaxFrame })
	if l := Frames(long, slices.Repeat([]int{16}, 5000)); len(l) != 5000 || l[4999] != 4999<<20 {
		t.Error(len(l))
	}
}

func TestAlike(t *testing.T) { // P28.1
	m := usual()
	if l := Alike(m); !slices.Equal(l, [][2]int{{0, 2}}) {
		t.Error(l)
	}
	// The same word out of other windows, with other needs.
	x := api.Module{Parts: []api.Partition{{Id: 1, Name: "A"}}, Schedules: []api.Schedule{
		{Id: 3, Frame: 5, Windows: []api.Window{{Id: 1, Length: 3}}},
		{Id: 4, Frame: 5, Windows: []api.Window{{Id: 1, Length: 2}}},
		{Id: 7, Frame: 5, Windows: []api.Window{{Id: 1, Length: 1}, {Id: 1, Offset: 1, Length: 2}}, Needs: []api.Need{{Id: 1, Period: 5, Budget: 1}}},
		{Id: 8, Frame: 6, Windows: []api.Window{{Id: 1, Length: 3}}},
		{Id: 9, Frame: 5, Windows: []api.Window{{Id: 1, Length: 1}, {Id: 1, Offset: 1, Length: 1}, {Id: 1, Offset: 2, Length: 1}}},
		{Id: 11, Frame: 5, Windows: []api.Window{{Id: 1, Offset: 2, Length: 3}}},
		{Id: 12, Frame: 5, Windows: []api.Window{{Id: 1, Offset: 1, Length: 3}}},
	}, First: 3}
	if e := check.Module(x); e != nil {
		t.Fatal(e)
	}
	if l := Alike(x); !slices.Equal(l, [][2]int{{3, 7}, {3, 9}, {7, 9}}) {
		t.Error(l)
	}
	next := ruled(7)
	seen := 0
	for range 3000 {
		m := mixed(t, next)
		var want [][2]int
		for _, a := range m.Schedules {
			for _, b := range m.Schedules {
				if a.Id < b.Id && slices.Equal(painted(a), painted(b)) {
					want = append(want, [2]int{a.Id, b.Id})
				}
			}
		}
		if l := Alike(m); !slices.Equal(l, want) {
			t.Fatal(m, l, want)
		}
		seen += len(want)
	}
	if seen < 200 {
		t.Error(seen)
	}
}

func TestAlikeLong(t *testing.T) { // P28.1: all of the longest there may be
	m := full(func(int) int { return api.MaxFrame })
	l := Alike(m)
	if len(l) != 120 || l[0] != [2]int{0, 16} || l[119] != [2]int{224, 240} || !slices.IsSortedFunc(l, func(a, b [2]int) int { return slices.Compare(a[:], b[:]) }) {
		t.Error(len(l))
	}
	m.Schedules[5].Windows = []api.Window{{Offset: api.MaxFrame - 1, Length: 1}}
	if l := Alike(m); len(l) != 105 {
		t.Error(len(l))
	}
}

func TestWordLong(t *testing.T) { // P28.1
	m := full(func(int) int { return api.MaxFrame })
	m.Schedules[1].Windows = []api.Window{{Length: api.MaxFrame}}
	w, k := Word(m, []int{0, 16, 0})
	if k != api.OK || len(w) != 3*api.MaxFrame || slices.Contains(w[:api.MaxFrame], 0) || slices.Contains(w[api.MaxFrame:2*api.MaxFrame], -1) || slices.Contains(w[2*api.MaxFrame:], 0) {
		t.Error(len(w), k)
	}
	// A word that would be more than may be told ends, too.
	if w, k := Word(m, slices.Repeat([]int{0}, 1<<16)); len(w) != 0 || k != api.OK {
		t.Error(len(w), k)
	}
}

// copied is a module whose lists are its own.
func copied(m api.Module) api.Module {
	m.Parts, m.Schedules, m.Pairs, m.Acts = slices.Clone(m.Parts), slices.Clone(m.Schedules), slices.Clone(m.Pairs), slices.Clone(m.Acts)
	for i := range m.Schedules {
		m.Schedules[i].Windows, m.Schedules[i].Needs = slices.Clone(m.Schedules[i].Windows), slices.Clone(m.Schedules[i].Needs)
	}
	return m
}

// same tells whether modules have the same schedules and transitions.
func same(a, b api.Module) bool {
	return a.First == b.First && slices.Equal(a.Pairs, b.Pairs) && slices.EqualFunc(a.Schedules, b.Schedules, func(x, y api.Schedule) bool {
		return x.Id == y.Id && x.Frame == y.Frame && slices.Equal(x.Windows, y.Windows) && slices.Equal(x.Needs, y.Needs)
	})
}

func TestNothingShared(t *testing.T) { // P28.1: what was handed in isn't changed, nor its spare room; what is told is new
	m := usual()
	m.Pairs = append(make([]api.Pair, 0, 9), m.Pairs...)
	given := copied(m)
	run := append(make([]int, 0, 9), 1, 0, 0)
	owners := append(make([]int, 0, 9), 0, -1, -1, 0, -1)
	for range 3 {
		w, _ := Word(m, run)
		r, _ := Explain(m, owners)
		f, a := Frames(m, run), Alike(m)
		if !Run(m, run) || Count(m, 3) != 5 || !slices.Equal(w, []int{0, -1, -1, 0, -1, 0, -1}) || !slices.Equal(r, []int{1, 0, 0}) || !slices.Equal(f, []int{0, 3, 5}) || !slices.Equal(a, [][2]int{{0, 2}}) {
			t.Error(w, r, f, a)
		}
		if !same(m, given) || !slices.Equal(run[:9], []int{1, 0, 0, 0, 0, 0, 0, 0, 0}) || !slices.Equal(owners[:9], []int{0, -1, -1, 0, -1, 0, 0, 0, 0}) {
			t.Error(m, run[:9], owners[:9])
		}
		for _, p := range m.Pairs[:9][2:] {
			if p != (api.Pair{}) {
				t.Error(m.Pairs[:9])
			}
		}
		clear(w)
		clear(r)
		clear(f)
		clear(a)
	}
}

// worn is a module that need not be valid.
func worn(next func(n int) int) api.Module {
	n := func(below int) int {
		if next(12) == 0 {
			return odd[next(len(odd))]
		}
		return next(below)
	}
	m := api.Module{First: n(4)}
	for range next(6) {
		x := api.Schedule{Id: n(4), Frame: n(5)}
		if x.Frame > 1<<27 && x.Frame < 1<<40 {
			x.Frame = 1 // no words of gigabytes
		}
		for range next(4) {
			x.Windows = append(x.Windows, api.Window{Id: n(3) - 1, Offset: n(4), Length: n(4)})
		}
		m.Schedules = append(m.Schedules, x)
	}
	for range next(16) {
		m.Pairs = append(m.Pairs, api.Pair{From: n(5), To: n(5)})
	}
	return m
}

// threes is how many runs of three schedules a module has, which need not be valid.
func threes(m api.Module) uint64 {
	var ids []int
	for _, x := range m.Schedules {
		ids = append(ids, x.Id)
	}
	slices.Sort(ids)
	ids = slices.Compact(ids)
	n := uint64(0)
	for _, b := range ids {
		for _, c := range ids {
			if isRun(m, []int{m.First, b, c}) {
				n++
			}
		}
	}
	return n
}

func TestWorn(t *testing.T) { // of modules that aren't valid each call tells something: it ends, and is the same again
	next := ruled(8)
	for range 6000 {
		m := worn(next)
		given := copied(m)
		var run, owners []int
		for range next(6) {
			run = append(run, next(5))
			owners = append(owners, next(4)-1, -1)
		}
		w, k := Word(m, run)
		if again, l := Word(m, run); l != k || !slices.Equal(w, again) || k != api.OK && len(w) != 0 {
			t.Fatal(m, run)
		}
		r, ok := Explain(m, owners)
		if again, is := Explain(m, owners); ok != is || !slices.Equal(r, again) || ok != (len(r) > 0) || ok && !Run(m, r) {
			t.Fatal(m, owners)
		}
		if l := Frames(m, run); !slices.Equal(l, Frames(m, run)) || len(l) > len(run) || !slices.Equal(Alike(m), Alike(m)) {
			t.Fatal(m, run)
		}
		// What a run is needs no valid module, nor how many there are.
		if Run(m, run) != isRun(m, run) || Count(m, 3) != threes(m) || (Count(m, 1) == 1) != isRun(m, []int{m.First}) {
			t.Fatal(m, run)
		}
		for _, p := range Alike(m) {
			if p[0] >= p[1] {
				t.Fatal(m, p)
			}
		}
		if !same(m, given) {
			t.Fatal(m, given)
		}
	}
}
