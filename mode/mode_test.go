package mode

import (
	"math"
	"slices"
	"strings"
	"testing"

	"countwheel/api"
)

// nones are numbers of which none is a mode, nor an action.
var nones = []int{math.MinInt, math.MinInt + 1, -1 << 32, -256, -4, -3, -2, -1, 4, 5, 127, 128, 255, 256, 257, 258, 259, 1 << 31, 1 << 32, 1<<32 + 1, 1<<32 + 3, math.MaxInt - 1, math.MaxInt}

// modes are all modes.
var modes = []int{0, 1, 2, 3}

// numbers are modes, and others.
func numbers() []int { return slices.Concat(nones, modes) }

// ruled is a row of numbers that a rule makes, each of which is below what it is asked with.
func ruled(x uint64) func(n int) int {
	return func(n int) int {
		x = x*6364136223846793005 + 1442695040888963407
		return int(x>>33) % n
	}
}

// asks are what Set tells of each mode that asks for each mode.
func asks() [4][4]Change {
	return [4][4]Change{
		{{0, 0, api.InvalidMode}, {0, 0, api.InvalidMode}, {0, 0, api.InvalidMode}, {0, 0, api.InvalidMode}},
		{{0, 0, api.NoError}, {1, 2, api.NoError}, {1, 0, api.InvalidMode}, {3, 0, api.NoError}},
		{{0, 0, api.NoError}, {1, 2, api.NoError}, {2, 1, api.NoError}, {3, 0, api.NoError}},
		{{0, 0, api.NoError}, {1, 2, api.NoError}, {2, 1, api.NoError}, {3, 0, api.NoAction}},
	}
}

// deeds are what Act tells of each mode to which each action is done.
func deeds() [4][3]Change {
	return [4][3]Change{
		{{0, 0, api.NoError}, {0, 0, api.NoError}, {0, 0, api.NoError}},
		{{1, 0, api.NoError}, {2, 1, api.NoError}, {1, 2, api.NoError}},
		{{2, 0, api.NoError}, {2, 1, api.NoError}, {1, 2, api.NoError}},
		{{3, 0, api.NoError}, {2, 1, api.NoError}, {1, 2, api.NoError}},
	}
}

// set is Set by the table above.
func set(now, want int) Change {
	switch {
	case !slices.Contains(modes, want):
		return Change{now, 0, api.InvalidParam}
	case !slices.Contains(modes, now):
		return Change{now, 0, api.InvalidMode}
	}
	return asks()[now][want]
}

func TestExample(t *testing.T) { // P19.1
	if c := Set(api.Cold, api.Warm); c.Code != api.InvalidMode {
		t.Error(c)
	}
	if c := Set(api.Warm, api.Cold); c != (Change{Mode: api.Cold, Start: ColdStart}) {
		t.Error(c)
	}
}

func TestStarts(t *testing.T) { // P19.1
	if None != 0 || WarmStart != 1 || ColdStart != 2 {
		t.Error(None, WarmStart, ColdStart)
	}
}

func TestRight(t *testing.T) { // P19.1: Right and Runs
	for _, m := range modes {
		if !Right(m) || Runs(m) != (m != 0) {
			t.Error(m, Right(m), Runs(m))
		}
	}
	for _, m := range nones {
		if Right(m) || Runs(m) {
			t.Error(m, Right(m), Runs(m))
		}
	}
}

func TestSet(t *testing.T) { // P19.1: from each mode to each one
	for now, row := range asks() {
		for want, c := range row {
			if got := Set(now, want); got != c {
				t.Error(now, want, got, c)
			}
		}
	}
}

func TestSetNone(t *testing.T) { // P19.1: what is none is told first of what is asked for, then of what is
	for _, none := range nones {
		for _, now := range numbers() {
			if c := Set(now, none); c != (Change{now, 0, api.InvalidParam}) {
				t.Error(now, none, c)
			}
		}
		for _, want := range modes {
			if c := Set(none, want); c != (Change{none, 0, api.InvalidMode}) {
				t.Error(none, want, c)
			}
		}
	}
}

func TestAct(t *testing.T) { // P19.1: each action on each mode
	for now, row := range deeds() {
		for action, c := range row {
			if got := Act(now, action); got != c {
				t.Error(now, action, got, c)
			}
		}
	}
}

func TestActNone(t *testing.T) { // P19.1: an action that is none is told ahead of a mode that doesn't run, to which nothing is done
	for _, none := range append(nones, 3) {
		for _, now := range numbers() {
			if c := Act(now, none); c != (Change{now, 0, api.InvalidParam}) {
				t.Error(now, none, c)
			}
		}
	}
	for _, none := range nones {
		for action := range 3 {
			if c := Act(none, action); c != (Change{none, 0, api.NoError}) {
				t.Error(none, action, c)
			}
		}
	}
}

func TestName(t *testing.T) { // P19.1
	for mode, name := range []string{"idle", "cold", "warm", "normal"} {
		if Name(mode) != name {
			t.Error(mode, Name(mode))
		}
		if m, ok := Named(name); m != mode || !ok {
			t.Error(name, m, ok)
		}
		for _, s := range []string{strings.ToUpper(name), strings.ToUpper(name[:1]) + name[1:], name + " ", " " + name, name + "\n", name + "\x00", name[1:], name[:len(name)-1], name + name} {
			if m, ok := Named(s); m != 0 || ok {
				t.Error(s, m, ok)
			}
		}
	}
	for _, none := range nones {
		if Name(none) != "" {
			t.Error(none, Name(none))
		}
	}
	for _, s := range []string{"", " ", "0", "1", "none", "idle cold", "\xff", strings.Repeat("warm", 1<<16)} {
		if m, ok := Named(s); m != 0 || ok {
			t.Error(s, m, ok)
		}
	}
}

func TestPath(t *testing.T) { // P19.1
	for _, from := range numbers() {
		for _, wants := range [][]int{nil, {}} {
			if l := Path(from, wants); len(l) != 0 {
				t.Error(from, l)
			}
		}
	}
	l := Path(api.Cold, []int{3, 3, 7, 2, 1, 2, 3, -1, 0, 1, 4})
	if !slices.Equal(l, []Change{{3, 0, 0}, {3, 0, api.NoAction}, {3, 0, api.InvalidParam}, {2, 1, 0}, {1, 2, 0}, {1, 0, api.InvalidMode}, {3, 0, 0}, {3, 0, api.InvalidParam}, {0, 0, 0}, {0, 0, api.InvalidMode}, {0, 0, api.InvalidParam}}) {
		t.Error(l)
	}
}

func TestPathAny(t *testing.T) { // P19.1: each from the mode that the one ahead told
	next := ruled(19)
	for range 2000 {
		from := numbers()[next(len(numbers()))]
		if next(3) > 0 {
			from = 1 + next(3)
		}
		given := make([]int, next(30)+1)
		for i := range given {
			given[i] = 1 + next(3)
			if next(9) == 0 {
				given[i] = numbers()[next(len(numbers()))]
			}
		}
		wants := slices.Clone(given)
		// The last one stands in the spare room.
		l := Path(from, wants[:len(wants)-1])
		if !slices.Equal(wants, given) {
			t.Fatal("changed")
		}
		var told []Change
		now := from
		for _, want := range given[:len(given)-1] {
			told = append(told, set(now, want))
			now = told[len(told)-1].Mode
		}
		if !slices.Equal(l, told) {
			t.Fatal(from, given, l, told)
		}
	}
}

func TestPathNew(t *testing.T) { // P19.1: what is told is new memory, and long ways end
	wants := slices.Repeat([]int{3, 2, 1}, 1<<16)
	a, b := Path(api.Warm, wants), Path(api.Warm, wants)
	if len(a) != len(wants) {
		t.Fatal(len(a))
	}
	clear(a)
	for i, c := range b {
		if c.Mode != wants[i] || c.Start != [3]int{0, 1, 2}[i%3] || c.Code != api.NoError {
			t.Fatal(i, c)
		}
	}
}

func TestIdle(t *testing.T) { // P19.2: whatever is asked for, and whatever is done
	for _, n := range numbers() {
		if c := Set(api.Idle, n); c.Mode != api.Idle || c.Start != None || c.Code == api.NoError || c.Code == api.NoAction {
			t.Error(n, c)
		}
		if c := Act(api.Idle, n); c.Mode != api.Idle || c.Start != None {
			t.Error(n, c)
		}
	}
	next := ruled(2)
	for range 300 {
		wants := make([]int, 20)
		for i := range wants {
			wants[i] = numbers()[next(len(numbers()))]
		}
		for _, c := range Path(api.Idle, wants) {
			if c.Mode != api.Idle || c.Start != None || c.Code == api.NoError {
				t.Fatal(wants, c)
			}
		}
	}
}

func TestOthersAreNotIdle(t *testing.T) { // P19.2: each other mode has its ways, and no action leads to Idle
	for _, now := range []int{1, 2, 3} {
		for _, want := range []int{0, 3} {
			l := Path(now, []int{want})
			if len(l) != 1 || l[0].Mode != want {
				t.Error(now, want, l)
			}
		}
		for action := range 3 {
			if c := Act(now, action); !Runs(c.Mode) {
				t.Error(now, action, c)
			}
		}
	}
}
