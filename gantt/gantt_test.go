package gantt

import (
	"fmt"
	"math"
	"slices"
	"strings"
	"testing"

	"countwheel/api"
	"countwheel/image"
	"countwheel/strip"
)

// ruled is a row of numbers that a rule makes, each of which is below what it is asked with.
func ruled(x uint64) func(n int) int {
	return func(n int) int {
		x = x*6364136223846793005 + 1442695040888963407
		return int(x>>33) % n
	}
}

// own are the signs of the ids from -1 to 35.
const own = ".0123456789abcdefghijklmnopqrstuvwxyz"

// odd are ids that have no sign of their own.
var odd = []int{math.MinInt, math.MinInt + 1, -1 << 32, -257, -256, -49, -3, -2, 36, 37, 38, 61, 62, 100, 207, 208, 246, 254, 255, 256, 257, 291, 292, 302, 1 << 31, 1<<32 - 1, 1 << 32, 1<<32 + 5, 1<<32 + 12, 1 << 62, math.MaxInt - 1, math.MaxInt}

// sign is an id's.
func sign(id int) string {
	if id < -1 || id > 35 {
		return "#"
	}
	return own[id+1 : id+2]
}

// signed are the signs of owners.
func signed(word []int) string {
	var b strings.Builder
	for _, id := range word {
		b.WriteString(sign(id))
	}
	return b.String()
}

func TestSign(t *testing.T) { // P36.1
	for id := -600; id <= 600; id++ {
		if s := Sign(id); string(s) != sign(id) {
			t.Error(id, s)
		}
	}
	for _, id := range odd {
		if s := Sign(id); s != '#' {
			t.Error(id, s)
		}
	}
	if Sign(-1) != '.' || Sign(0) != '0' || Sign(9) != '9' || Sign(10) != 'a' || Sign(35) != 'z' || Sign(36) != '#' || Sign(-2) != '#' {
		t.Error("signs")
	}
}

func TestRead(t *testing.T) { // P36.1, P36.2
	ids, ok := Read(own)
	if !ok || len(ids) != 37 {
		t.Fatal(ids, ok)
	}
	for i, id := range ids {
		if id != i-1 {
			t.Error(i, id)
		}
	}
	for b := range 256 {
		one := string([]byte{byte(b)})
		at := strings.IndexByte(own, byte(b))
		if ids, ok := Read(one); ok != (at >= 0) || ok && !slices.Equal(ids, []int{at - 1}) || !ok && ids != nil {
			t.Error(b, ids, ok)
		}
		if at >= 0 {
			continue
		}
		for _, s := range []string{one + "12", "1" + one + "2", "12" + one, one + one, own + one} {
			if ids, ok := Read(s); ok || ids != nil {
				t.Errorf("%q %v", s, ids)
			}
		}
	}
	if ids, ok := Read(""); !ok || len(ids) != 0 {
		t.Error(ids, ok)
	}
	next := ruled(1)
	for range 2000 { // what is read of signs is the ids
		word := make([]int, next(30))
		var b []byte
		for i := range word {
			word[i] = next(37) - 1
			b = append(b, Sign(word[i]))
		}
		if ids, ok := Read(string(b)); !ok || !slices.Equal(ids, word) {
			t.Fatal(word, ids)
		}
	}
	if ids, ok := Read(strings.Repeat("z", 1<<20)); !ok || !slices.Equal(ids, slices.Repeat([]int{35}, 1<<20)) {
		t.Error(len(ids), ok)
	}
}

// mixed is a schedule whose numbers may be: its windows need not be right.
func mixed(next func(n int) int) api.Schedule {
	x := api.Schedule{Id: next(256), Frame: 1 + next(20)}
	for range next(5) {
		x.Windows = append(x.Windows, api.Window{Id: []int{next(37), next(256)}[next(2)], Offset: next(24), Length: next(9)})
	}
	return x
}

// painted is a schedule's word: of each tick the first window's that has it.
func painted(x api.Schedule) []int {
	l := slices.Repeat([]int{-1}, x.Frame)
	for tick := range l {
		for _, w := range x.Windows {
			if tick >= w.Offset && tick < w.Offset+w.Length {
				l[tick] = w.Id
				break
			}
		}
	}
	return l
}

func TestSchedule(t *testing.T) { // P36.1
	for want, x := range map[string]api.Schedule{
		".11.":    {Frame: 4, Windows: []api.Window{{Id: 1, Offset: 1, Length: 2}}},
		".":       {Frame: 1},
		"...":     {Id: 9, Frame: 3},
		"0":       {Frame: 1, Windows: []api.Window{{Length: 1}}},
		"9a.z##.": {Frame: 7, Windows: []api.Window{{Id: 9, Length: 1}, {Id: 10, Offset: 1, Length: 1}, {Id: 35, Offset: 3, Length: 1}, {Id: 36, Offset: 4, Length: 1}, {Id: 255, Offset: 5, Length: 1}}},
	} {
		if s := Schedule(x); s != want {
			t.Errorf("%q %q", s, want)
		}
	}
	next := ruled(2)
	for range 3000 {
		x := mixed(next)
		if s := Schedule(x); s != signed(painted(x)) {
			t.Fatal(x, s)
		}
	}
	long := api.Schedule{Frame: api.MaxFrame, Windows: []api.Window{{Id: 11, Offset: api.MaxFrame - 1, Length: 1}}}
	if s := Schedule(long); s != strings.Repeat(".", api.MaxFrame-1)+"b" {
		t.Error(len(s))
	}
}

func TestModule(t *testing.T) { // P36.1
	if l := Module(api.Module{}); len(l) != 0 {
		t.Error(l)
	}
	next := ruled(3)
	for range 1000 {
		var m api.Module
		var want []string
		for range next(5) { // in the order in which they stand
			x := mixed(next)
			m.Schedules = append(m.Schedules, x)
			want = append(want, fmt.Sprintf("%d %s", x.Id, signed(painted(x))))
		}
		given := image.Clone(m)
		if l := Module(m); !slices.Equal(l, want) || !image.Same(m, given) {
			t.Fatal(m, l, want)
		}
	}
	m := api.Module{First: 9, Parts: []api.Partition{{Id: 2, Name: "A"}}, Schedules: []api.Schedule{{Id: 255, Frame: 2}, {Frame: 1}}}
	if l := Module(m); !slices.Equal(l, []string{"255 ..", "0 ."}) {
		t.Error(l)
	}
}

// owners are some, also such as have no sign of their own.
func owners(next func(n int) int) []int {
	l := make([]int, next(20))
	for i := range l {
		switch next(6) {
		case 0:
			l[i] = odd[next(len(odd))]
		case 1:
			l[i] = next(37) - 1
		case 2:
			l[i] = next(2)
		default:
			l[i] = l[max(i-1, 0)]
		}
	}
	return l
}

func TestStrip(t *testing.T) { // P36.1
	next := ruled(4)
	for range 3000 {
		word := owners(next)
		s := strip.Of(word)
		wide := []int{math.MinInt, -2, -1, 0, 1, 2, 3, 4, 5, 7, 19, 20, 21, 1 << 31, 1 << 32, math.MaxInt - 1, math.MaxInt, max(1, len(word))}[next(18)]
		var want []string
		rest := signed(word)
		for rest != "" {
			n := min(max(wide, 1), len(rest))
			want, rest = append(want, rest[:n]), rest[n:]
		}
		if l := Strip(s, wide); !slices.Equal(l, want) || !slices.Equal(s.Word(), word) {
			t.Fatal(word, wide, l, want)
		}
	}
	for _, wide := range []int{math.MinInt, -1, 0, 1, 5, math.MaxInt} {
		if l := Strip(strip.New(), wide); len(l) != 0 {
			t.Error(wide, l)
		}
	}
	word := []int{1, 1, 2, -1, 3}
	for wide, want := range map[int][]string{-7: {"1", "1", "2", ".", "3"}, 0: {"1", "1", "2", ".", "3"}, 1: {"1", "1", "2", ".", "3"}, 2: {"11", "2.", "3"}, 3: {"112", ".3"}, 4: {"112.", "3"}, 5: {"112.3"}, 6: {"112.3"}} {
		if l := Strip(strip.Of(word), wide); !slices.Equal(l, want) {
			t.Error(wide, l)
		}
	}
}

func TestStripLong(t *testing.T) { // P36.1: of more ticks than a word has
	s := strip.New()
	s.Add(7, 1<<28)
	s.Add(-1, 3)
	l := Strip(s, 1<<28)
	if len(l) != 2 || len(l[0]) != 1<<28 || strings.Count(l[0], "7") != 1<<28 || l[1] != "..." {
		t.Error(len(l))
	}
}

func TestRows(t *testing.T) { // P36.1
	for _, r := range []struct {
		word, ids []int
		want      []string
	}{
		{[]int{1, 2, 1}, []int{1, 2}, []string{"1 #.#", "2 .#."}},
		{[]int{1, -1, 36, 37}, []int{37, -1, 0, 37, 99}, []string{"# ...#", ". .#..", "0 ....", "# ...#", "# ...."}},
		{nil, []int{1, 10}, []string{"1 ", "a "}},
		{[]int{1}, nil, nil},
		{nil, nil, nil},
	} {
		if l := Rows(r.word, r.ids); !slices.Equal(l, r.want) {
			t.Error(r, l)
		}
	}
	next := ruled(5)
	for range 3000 {
		word, ids := owners(next), owners(next)
		givenWord, givenIds := slices.Clone(word), slices.Clone(ids)
		l := Rows(word, ids)
		if len(l) != len(ids) || !slices.Equal(word, givenWord) || !slices.Equal(ids, givenIds) {
			t.Fatal(word, ids, l)
		}
		for i, line := range l {
			if len(line) != len(word)+2 || line[:2] != sign(ids[i])+" " {
				t.Fatal(word, ids[i], line)
			}
			for tick, id := range word {
				if (line[2+tick] == '#') != (id == ids[i]) || line[2+tick] != '#' && line[2+tick] != '.' {
					t.Fatal(word, ids[i], line)
				}
			}
		}
	}
}

func TestRuns(t *testing.T) { // P36.1
	for want, word := range map[string][]int{
		"":                    nil,
		"1*1":                 {1},
		"1*2 .*1":             {1, 1, -1},
		".*3":                 {-1, -1, -1},
		"0*1 a*2 0*1":         {0, 10, 10, 0},
		"#*1 #*2 #*1 .*1 #*1": {36, 37, 37, -2, -1, math.MaxInt}, // of one owner, not of one sign
		"z*12":                slices.Repeat([]int{35}, 12),
	} {
		if s := Runs(word); s != want {
			t.Errorf("%q %q", s, want)
		}
	}
	if s := Runs([]int{}); s != "" {
		t.Error(s)
	}
	next := ruled(6)
	for range 3000 {
		word := owners(next)
		given := slices.Clone(word)
		var want []string
		for from := 0; from < len(word); {
			n := 1
			for from+n < len(word) && word[from+n] == word[from] {
				n++
			}
			want = append(want, fmt.Sprintf("%s*%d", sign(word[from]), n))
			from += n
		}
		if s := Runs(word); s != strings.Join(want, " ") || !slices.Equal(word, given) {
			t.Fatal(word, s)
		}
	}
	if s := Runs(slices.Repeat([]int{3}, 1<<20)); s != "3*1048576" {
		t.Error(s)
	}
}
