package text

import (
	"fmt"
	"math"
	"math/big"
	"regexp"
	"slices"
	"strconv"
	"strings"
	"testing"

	"countwheel/api"
	"countwheel/fault"
	"countwheel/image"
)

// ruled is a row of numbers that a rule makes, each of which is below what it is asked with.
func ruled(x uint64) func(n int) int {
	return func(n int) int {
		x = x*6364136223846793005 + 1442695040888963407
		return int(x>>33) % n
	}
}

// odd are numbers that no module that has bytes has, but where they are an Epoch or a Value.
var odd = []int{math.MinInt, -1 << 33, -256, -1, 1<<20 + 1, 1 << 31, 1<<32 - 1, 1 << 32, 1<<32 + 1, 1 << 62, 1<<62 + 1, math.MaxInt}

// full has each line that there is, also twice one behind the other.
const full = `module 18446744073709551615 255
part 0 NAV may
cell 0
cell 4294967295 kept
cell 1 kept
part 7 B_2
part 9 C
cell 12
part 255 ABCDEFGHIJKLMNOP may
schedule 0 10
window 1 2 3
window 1 0 0
window 255 1048576 1048576
need 3 4 5
need 3 0 1048576
schedule 1 1
need 9 1 0
schedule 3 1048576
schedule 255 7
window 0 1 1
pair 0 0
pair 0 255
pair 17 3
act 0 9 cold
act 0 10 warm
act 255 255 warm
`

// fullModule is what full says.
func fullModule() api.Module {
	return api.Module{
		Epoch: math.MaxUint64, First: 255,
		Parts: []api.Partition{
			{Id: 0, Name: "NAV", May: true, Cells: []api.Cell{{}, {Value: 1<<32 - 1, Kept: true}, {Value: 1, Kept: true}}},
			{Id: 7, Name: "B_2"},
			{Id: 9, Name: "C", Cells: []api.Cell{{Value: 12}}},
			{Id: 255, Name: "ABCDEFGHIJKLMNOP", May: true},
		},
		Schedules: []api.Schedule{
			{Id: 0, Frame: 10, Windows: []api.Window{{Id: 1, Offset: 2, Length: 3}, {Id: 1}, {Id: 255, Offset: 1 << 20, Length: 1 << 20}}, Needs: []api.Need{{Id: 3, Period: 4, Budget: 5}, {Id: 3, Budget: 1 << 20}}},
			{Id: 1, Frame: 1, Needs: []api.Need{{Id: 9, Period: 1}}},
			{Id: 3, Frame: 1 << 20},
			{Id: 255, Frame: 7, Windows: []api.Window{{Offset: 1, Length: 1}}},
		},
		Pairs: []api.Pair{{From: 0, To: 0}, {From: 0, To: 255}, {From: 17, To: 3}},
		Acts:  []api.Act{{Schedule: 0, Partition: 9, Action: 2}, {Schedule: 0, Partition: 10, Action: 1}, {Schedule: 255, Partition: 255, Action: 1}},
	}
}

// small is a text whose module has bytes: one line of each kind.
const small = "module 5 3\npart 1 A may\ncell 7 kept\nschedule 2 4\nwindow 1 0 2\nneed 1 4 2\npair 2 3\nact 2 1 cold\n"

// refuses holds that a text is none, by all of what the error says.
func refuses(t *testing.T, s, want string) {
	t.Helper()
	m, e := Parse(s)
	if fault.Text(e) != want || !image.Same(m, api.Module{}) {
		t.Fatalf("%.200q: %v, %q, not %q", s, m, fault.Text(e), want)
	}
}

// parses holds that a text is a module's, both ways.
func parses(t *testing.T, s string, want api.Module) {
	t.Helper()
	m, e := Parse(s)
	if e != nil || !image.Same(m, want) {
		t.Fatalf("%.200q: %v %v, not %v", s, m, e, want)
	}
	if p, e := Print(m); e != nil || p != s {
		t.Fatalf("%.200q: %.200q %v", s, p, e)
	}
}

func TestWrittenOut(t *testing.T) { // P34.1, P34.2
	parses(t, full, fullModule())
	if s, e := Print(fullModule()); e != nil || s != full {
		t.Errorf("%q %v", s, e)
	}
	parses(t, "module 0 0\npart 0 A\nschedule 0 1\n", api.Module{Parts: []api.Partition{{Name: "A"}}, Schedules: []api.Schedule{{Frame: 1}}})
	parses(t, small, api.Module{
		Epoch: 5, First: 3,
		Parts:     []api.Partition{{Id: 1, Name: "A", May: true, Cells: []api.Cell{{Value: 7, Kept: true}}}},
		Schedules: []api.Schedule{{Id: 2, Frame: 4, Windows: []api.Window{{Id: 1, Length: 2}}, Needs: []api.Need{{Id: 1, Period: 4, Budget: 2}}}},
		Pairs:     []api.Pair{{From: 2, To: 3}},
		Acts:      []api.Act{{Schedule: 2, Partition: 1, Action: 2}},
	})
}

func TestNoLines(t *testing.T) { // P34.1: lines that are none of these by their words
	lines := strings.SplitAfter(small, "\n")
	for _, no := range []string{
		"", " ", "  ", "\r", "\t", "\x00", "\xff", "x", "5", "modul 5 3", "modules 5 3", "Module 5 3", "parts 1 A", "now",
		"module", "module ", "module 5", "module 5 ", "module  5 3", " module 5 3", "module 5 3 ", "module 5  3", "module 5 3 1", "module 5 3\r", "module\t5 3", "module a 3", "module 5 a", "module5 3",
		"part", "part 1", "part 1 ", "part A", "part A 1", "part 1 a", "part 1 1A", "part 1 _A", "part 1 A-", "part 1 A ", "part 1 A May", "part 1 A may ", "part 1 A may may", "part 1 A B may", "part 1 may", "part 1 may may", "part  1 A", "part 1  A", "part 1  may", "part 1 A  may", "part 1 A kept", "part 1 A 1", "part 1 ABCDEFGHIJKLMNOPQ", "part 1 ABCDEFGHIJKLMNOPQ may", "part 1 A\r", "part 1 Ä", "part x A", "part x A may",
		"cell", "cell ", "cell kept", "cell a", "cell 7 Kept", "cell 7 kept ", "cell 7 kept kept", "cell 7 8", "cell 7 8 kept", "cell 7  kept", "cell 7 may", "cell 7kept",
		"schedule", "schedule 2", "schedule 2 4 1", "schedule 2 a", "schedule a 4", "schedule 2 4 ", "schedule 2  4", "sched 2 4",
		"window", "window 1", "window 1 0", "window 1 0 2 3", "window a 0 2", "window 1 a 2", "window 1 0 a", "window 1 0 2 ", "window 1 0  2", "windows 1 0 2",
		"need", "need 1", "need 1 4", "need 1 4 2 1", "need a 4 2", "need 1 a 2", "need 1 4 a", "need 1 4 2 ", "need 1  4 2", "needs 1 4 2",
		"pair", "pair 2", "pair 2 3 4", "pair a 3", "pair 2 a", "pair 2 3 ", "pair  2 3", "pair 2 3 cold", "pairs 2 3",
		"act", "act 2", "act 2 1", "act 2 cold", "act cold", "act 2 1 hot", "act 2 1 Cold", "act 2 1 Warm", "act 2 1 ignore", "act 2 1 1", "act 2 1 2", "act 2 1 cold cold", "act 2 1 warm cold", "act 2 1 cold warm", "act 2 1 1 cold", "act a 1 cold", "act 2 a warm", "act 2 1 cold ", "act 2 1  cold", "act 2  1 cold", "act 2 1 0", "acts 2 1 cold",
	} {
		for at := range lines {
			s := strings.Join(slices.Insert(slices.Clone(lines), at, no+"\n"), "")
			refuses(t, s, fmt.Sprintf("at %d: form", at))
			if at < len(lines)-1 { // in the place of a line, also with another wrong one behind it
				l := slices.Clone(lines)
				l[at] = no + "\n"
				refuses(t, strings.Join(l, ""), fmt.Sprintf("at %d: form", at))
				refuses(t, strings.Join(l, "")+"x\n", fmt.Sprintf("at %d: form", at))
			}
		}
	}
}

func TestNumbers(t *testing.T) { // P34.1: the edges of each number, and what is none
	most := new(big.Int).SetUint64(math.MaxUint64)
	value := big.NewInt(1<<32 - 1)
	other := big.NewInt(1 << 62)
	lines := strings.SplitAfter(small, "\n")
	fields := []struct {
		at   int
		line string
		most *big.Int
	}{
		{0, "module %s 3", most}, {0, "module 5 %s", other}, {1, "part %s A may", other}, {1, "part %s A", other}, {2, "cell %s kept", value}, {2, "cell %s", value},
		{3, "schedule %s 4", other}, {3, "schedule 2 %s", other}, {4, "window %s 0 2", other}, {4, "window 1 %s 2", other}, {4, "window 1 0 %s", other},
		{5, "need %s 4 2", other}, {5, "need 1 %s 2", other}, {5, "need 1 4 %s", other}, {6, "pair %s 3", other}, {6, "pair 2 %s", other}, {7, "act %s 1 cold", other}, {7, "act 2 %s warm", other},
	}
	for _, f := range fields {
		put := func(word string) string {
			l := slices.Clone(lines)
			l[f.at] = fmt.Sprintf(f.line, word) + "\n"
			return strings.Join(l, "")
		}
		form := fmt.Sprintf("at %d: form", f.at)
		for _, no := range []string{"", "-1", "+1", "-0", "00", "01", "007", "1.0", "1e1", "0x1", "1_0", "a", "٣", "18446744073709551616", "18446744073709551617", "4294967297000000000000", strings.Repeat("1", 1000), strings.Repeat("0", 1000), "1" + strings.Repeat("0", 64), "1\x00", "1\r", "cold", "kept", "may", "A"} {
			refuses(t, put(no), form)
		}
		for _, base := range []*big.Int{value, other, most} {
			for d := int64(-2); d <= 2; d++ {
				n := new(big.Int).Add(base, big.NewInt(d))
				m, e := Parse(put(n.String()))
				switch {
				case n.Cmp(f.most) > 0:
					refuses(t, put(n.String()), form)
				case e == nil:
					parses(t, put(n.String()), m)
				case fault.Is(e, api.ErrForm):
					t.Error(f, n, e)
				}
			}
		}
	}
	// What they are read as, as far as there are bytes of them.
	m, e := Parse("module 18446744073709551615 254\npart 253 A\ncell 4294967294\ncell 4294967295 kept\nschedule 252 1048575\nwindow 251 1048574 1048573\nneed 250 1048572 1048571\npair 249 248\nact 247 246 warm\n")
	want := api.Module{
		Epoch: math.MaxUint64, First: 254,
		Parts:     []api.Partition{{Id: 253, Name: "A", Cells: []api.Cell{{Value: 1<<32 - 2}, {Value: 1<<32 - 1, Kept: true}}}},
		Schedules: []api.Schedule{{Id: 252, Frame: 1048575, Windows: []api.Window{{Id: 251, Offset: 1048574, Length: 1048573}}, Needs: []api.Need{{Id: 250, Period: 1048572, Budget: 1048571}}}},
		Pairs:     []api.Pair{{From: 249, To: 248}},
		Acts:      []api.Act{{Schedule: 247, Partition: 246, Action: 1}},
	}
	if e != nil || !image.Same(m, want) {
		t.Error(m, e)
	}
}

func TestPlaces(t *testing.T) { // P34.1: which line may stand behind which one
	lines := map[string]string{"module": "module 0 0", "part": "part 1 A", "cell": "cell 1", "schedule": "schedule 0 1", "window": "window 1 0 1", "need": "need 1 1 1", "pair": "pair 0 1", "act": "act 0 1 warm"}
	may := map[string]string{
		"part":     "part cell schedule pair act",
		"cell":     "part cell schedule pair act",
		"schedule": "part schedule window need pair act",
		"window":   "part schedule window need pair act",
		"need":     "part schedule need pair act",
		"pair":     "part schedule pair act",
		"act":      "part schedule pair act",
		"module":   "part schedule pair act",
	}
	// What stands ahead of a line of each word, so that it stands where it may.
	ahead := map[string]string{"module": "", "part": "module", "cell": "module part", "schedule": "module", "window": "module schedule", "need": "module schedule", "pair": "module", "act": "module"}
	for first, l := range lines {
		if first != "module" {
			refuses(t, l+"\n", "at 0: form")
			refuses(t, l+"\n"+small, "at 0: form")
		}
		s, n := "", 0
		for _, w := range strings.Fields(ahead[first]) {
			s, n = s+lines[w]+"\n", n+1
		}
		s += l + "\n"
		for second, l := range lines {
			_, e := Parse(s + l + "\n")
			isForm := fault.Is(e, api.ErrForm)
			if isForm == slices.Contains(strings.Fields(may[first]), second) {
				t.Error(first, second, e)
			}
			if isForm {
				refuses(t, s+l+"\n", fmt.Sprintf("at %d: form", n+1))
			}
		}
	}
}

func TestEnds(t *testing.T) { // P34.1: no lines, and a last one without its end
	refuses(t, "", "at 0: form")
	refuses(t, "\n", "at 0: form")
	refuses(t, "module 0 0", "at 0: form")
	for n := range len(full) {
		at := strings.Count(full[:n], "\n")
		if n == 0 || full[n-1] != '\n' {
			refuses(t, full[:n], fmt.Sprintf("at %d: form", at))
		} else if _, e := Parse(full[:n]); fault.Is(e, api.ErrForm) {
			t.Error(n, e)
		}
	}
	refuses(t, full+"\n", "at 26: form")
	refuses(t, "\n"+full, "at 0: form")
	refuses(t, strings.ReplaceAll(full, "\n", "\r\n"), "at 0: form")
}

func TestEncodes(t *testing.T) { // P34.1: what has no bytes, as layer 12 tells it; then another order
	row := func(n int, line string) string {
		var b strings.Builder
		for i := range n {
			b.WriteString(strings.ReplaceAll(line, "%", strconv.Itoa(i)) + "\n")
		}
		return b.String()
	}
	pairs := func(n int) string {
		var b strings.Builder
		for i := range n {
			fmt.Fprintf(&b, "pair %d %d\n", i/16, i%16)
		}
		return b.String()
	}
	acts := func(n int) string {
		var b strings.Builder
		for i := range n {
			fmt.Fprintf(&b, "act %d %d warm\n", i/32, i%32)
		}
		return b.String()
	}
	begin := "module 0 0\npart 0 A\n"
	for _, r := range []struct{ text, want string }{
		{"module 0 1\n", "section 1: at 1: many"},
		{begin, "section 1: at 2: many"},
		{"module 0 256\n", "section 1: at 0: range"},
		{"module 0 4611686018427387904\n" + small[11:], "section 1: at 0: range"},
		{"module 0 0\n" + row(33, "part % A") + "schedule 0 1\n", "section 1: at 1: many"},
		{begin + row(17, "schedule % 1"), "section 1: at 2: many"},
		{begin + "schedule 0 1\n" + pairs(241), "section 1: at 3: many"},
		{begin + "schedule 0 1\n" + acts(513), "section 1: at 4: many"},
		{begin + row(17, "cell %") + "schedule 0 1\n", "section 2: at 0: many"},
		{begin + "part 256 A\nschedule 0 1\n", "section 2: at 1: range"},
		{begin + "part 0 A\nschedule 0 1\n", "section 2: at 1: order"},
		{begin + "part 4611686018427387904 A\nschedule 0 1\n", "section 2: at 1: range"},
		{begin + "schedule 0 0\n", "section 3: at 0: range"},
		{begin + "schedule 0 1048577\n", "section 3: at 0: range"},
		{begin + "schedule 0 1\nschedule 256 1\n", "section 3: at 1: range"},
		{begin + "schedule 1 1\nschedule 0 1\n", "section 3: at 1: order"},
		{begin + "schedule 0 1\nwindow 0 1048577 0\n", "section 3: at 0: range"},
		{begin + "schedule 0 1\n" + row(257, "window 0 0 %"), "section 3: at 0: many"},
		{begin + "schedule 0 1\n" + row(33, "need % 0 0"), "section 3: at 0: many"},
		{begin + "schedule 0 1\npair 256 0\n", "section 4: at 0: range"},
		{begin + "schedule 0 1\npair 1 0\npair 0 1\n", "section 4: at 1: order"},
		{begin + "schedule 0 1\nact 256 0 warm\n", "section 5: at 0: range"},
		{begin + "schedule 0 1\nact 1 0 warm\nact 1 0 cold\n", "section 5: at 1: order"},
		// In another order: just the kinds of lines. Of one kind layer 12 asks for that.
		{"module 0 0\nschedule 0 1\npart 0 A\n", "at 0: order"},
		{"module 0 0\npart 0 A\npair 0 1\nschedule 0 1\n", "at 0: order"},
		{"module 0 0\npart 0 A\nschedule 0 1\nact 0 0 warm\npair 0 1\n", "at 0: order"},
		{"module 0 0\npart 0 A\nschedule 0 1\npart 1 A\n", "at 0: order"},
		{"module 0 0\npart 0 A\nschedule 0 1\npart 1 A\ncell 0\nschedule 1 1\nneed 0 0 0\n", "at 0: order"},
		{"module 0 0\npart 0 A\nact 0 0 cold\nschedule 0 1\n", "at 0: order"},
		// The form is wrong first, then layer 12's errors, then the order.
		{"module 0 0\nschedule 0 0\npart 0 A\n", "section 3: at 0: range"},
		{"module 0 256\nschedule 0 1\npart 0 A\nx\n", "at 3: form"},
		{"module 0 256\npair 0 1\npart 0 A\nschedule 0 1\n", "section 1: at 0: range"},
	} {
		refuses(t, r.text, r.want)
	}
	// As much as there may be.
	s := "module 1 2\n" + row(31, "part % A") + "part 31 B may\n" + row(16, "cell % kept") + row(15, "schedule % 1") + "schedule 15 1\n" + row(256, "window 0 0 %") + row(32, "need % 0 0") + pairs(240) + acts(512)
	m, e := Parse(s)
	if e != nil || len(m.Parts) != 32 || len(m.Parts[31].Cells) != 16 || len(m.Schedules) != 16 || len(m.Schedules[15].Windows) != 256 || len(m.Schedules[15].Needs) != 32 || len(m.Pairs) != 240 || len(m.Acts) != 512 {
		t.Fatal(e)
	}
	parses(t, s, m)
}

// mixed is a module that has bytes, but need not be valid.
func mixed(next func(n int) int) api.Module {
	edge := func(most int) int {
		return []int{0, 1, next(most + 1), next(most + 1), most}[next(5)]
	}
	m := api.Module{Epoch: uint64(next(1<<31)) << uint(next(34)), First: edge(255)}
	for id := next(3); id < 256 && len(m.Parts) < 1+next(8); id += 1 + next(100) {
		p := api.Partition{Id: id, May: next(2) == 0, Name: []string{"A", "NAV", "Z_9", "MAY", "P1", "ABCDEFGHIJKLMNOP"}[next(6)]}
		for range next(4) {
			p.Cells = append(p.Cells, api.Cell{Value: uint32(edge(1<<31-1))*2 + uint32(next(2)), Kept: next(2) == 0})
		}
		m.Parts = append(m.Parts, p)
	}
	for id := next(3); id < 256 && len(m.Schedules) < 1+next(6); id += 1 + next(100) {
		x := api.Schedule{Id: id, Frame: 1 + edge(1<<20-1)}
		for range next(4) {
			x.Windows = append(x.Windows, api.Window{Id: edge(255), Offset: edge(1 << 20), Length: edge(1 << 20)})
		}
		for range next(4) {
			x.Needs = append(x.Needs, api.Need{Id: edge(255), Period: edge(1 << 20), Budget: edge(1 << 20)})
		}
		m.Schedules = append(m.Schedules, x)
	}
	for at := next(500); at < 1<<16 && len(m.Pairs) < next(7); at += 1 + next(700) {
		m.Pairs = append(m.Pairs, api.Pair{From: at / 256, To: at % 256})
	}
	for at := next(500); at < 1<<16 && len(m.Acts) < next(7); at += 1 + next(700) {
		m.Acts = append(m.Acts, api.Act{Schedule: at / 256, Partition: at % 256, Action: 1 + next(2)})
	}
	return m
}

// printed is a module's text, told by itself.
func printed(m api.Module) string {
	var b strings.Builder
	fmt.Fprintf(&b, "module %d %d\n", m.Epoch, m.First)
	for _, p := range m.Parts {
		fmt.Fprintf(&b, "part %d %s%s\n", p.Id, p.Name, map[bool]string{true: " may"}[p.May])
		for _, c := range p.Cells {
			fmt.Fprintf(&b, "cell %d%s\n", c.Value, map[bool]string{true: " kept"}[c.Kept])
		}
	}
	for _, x := range m.Schedules {
		fmt.Fprintf(&b, "schedule %d %d\n", x.Id, x.Frame)
		for _, w := range x.Windows {
			fmt.Fprintf(&b, "window %d %d %d\n", w.Id, w.Offset, w.Length)
		}
		for _, n := range x.Needs {
			fmt.Fprintf(&b, "need %d %d %d\n", n.Id, n.Period, n.Budget)
		}
	}
	for _, p := range m.Pairs {
		fmt.Fprintf(&b, "pair %d %d\n", p.From, p.To)
	}
	for _, a := range m.Acts {
		fmt.Fprintf(&b, "act %d %d %s\n", a.Schedule, a.Partition, []string{"", "warm", "cold"}[a.Action])
	}
	return b.String()
}

func TestPrint(t *testing.T) { // P34.1, P34.2
	next := ruled(1)
	for range 3000 {
		m := mixed(next)
		given := image.Clone(m)
		s, e := Print(m)
		if e != nil || s != printed(m) {
			t.Fatalf("%v %q %v", m, s, e)
		}
		parses(t, s, given)
		if !image.Same(m, given) {
			t.Fatal(m, given)
		}
	}
}

// worn is a module of which something is another number, or stands twice.
func worn(next func(n int) int, m api.Module) api.Module {
	n := odd[next(len(odd))]
	switch x := &m.Schedules[next(len(m.Schedules))]; next(10) {
	case 0:
		m.First = n
	case 1:
		m.Parts[next(len(m.Parts))].Id = n
	case 2:
		m.Parts[next(len(m.Parts))].Name = []string{"", "a", "1A", "A B", "A\n", "ABCDEFGHIJKLMNOPQ"}[next(6)]
	case 3:
		x.Frame = n
	case 4:
		x.Windows = append(x.Windows, api.Window{Id: next(2) * n, Offset: n, Length: 1})
	case 5:
		x.Needs = append(x.Needs, api.Need{Id: 1, Period: 2 * next(2), Budget: n})
	case 6:
		m.Pairs = append(m.Pairs, api.Pair{From: next(9), To: n})
	case 7:
		m.Acts = append(m.Acts, api.Act{Schedule: 255, Partition: 255, Action: []int{0, 3, -1, n}[next(4)]})
	case 8:
		m.Parts = append(m.Parts, m.Parts...)
	case 9:
		m.Schedules = nil
	}
	return m
}

func TestPrintRefuses(t *testing.T) { // P34.1: layer 12's error
	next := ruled(2)
	seen := map[api.Fault]int{}
	for range 3000 {
		m := worn(next, mixed(next))
		_, want := image.Encode(m)
		s, e := Print(m)
		if s != "" || e == nil || fault.Text(e) != fault.Text(want) {
			t.Fatalf("%v %q %v %v", m, s, e, want)
		}
		seen[fault.Of(e)]++
	}
	if len(seen) < 20 {
		t.Error(seen)
	}
	if s, e := Print(api.Module{}); s != "" || fault.Text(e) != "section 1: at 1: many" {
		t.Error(s, e)
	}
}

// kind is a kind of lines, by an expression for its words, and what its numbers are at most.
type kind struct {
	line  *regexp.Regexp
	most  []uint64
	group int
	ahead string
	put   func(m *api.Module, n []uint64, f []string)
}

const number1 = ` (0|[1-9][0-9]*)`

// kinds are all of them, by the chapter's words.
var kinds = map[string]kind{
	"module": {regexp.MustCompile(`\Amodule` + number1 + number1 + `\z`), []uint64{math.MaxUint64, 1 << 62}, 0, "", func(m *api.Module, n []uint64, _ []string) {
		m.Epoch, m.First = n[0], int(n[1])
	}},
	"part": {regexp.MustCompile(`\Apart` + number1 + ` ([A-Z][A-Z0-9_]{0,15})( may)?\z`), []uint64{1 << 62}, 1, "module part cell schedule window need pair act", func(m *api.Module, n []uint64, f []string) {
		m.Parts = append(m.Parts, api.Partition{Id: int(n[0]), Name: f[2], May: f[3] != ""})
	}},
	"cell": {regexp.MustCompile(`\Acell` + number1 + `( kept)?\z`), []uint64{1<<32 - 1}, 1, "part cell", func(m *api.Module, n []uint64, f []string) {
		p := &m.Parts[len(m.Parts)-1]
		p.Cells = append(p.Cells, api.Cell{Value: uint32(n[0]), Kept: f[2] != ""})
	}},
	"schedule": {regexp.MustCompile(`\Aschedule` + number1 + number1 + `\z`), []uint64{1 << 62, 1 << 62}, 2, "module part cell schedule window need pair act", func(m *api.Module, n []uint64, _ []string) {
		m.Schedules = append(m.Schedules, api.Schedule{Id: int(n[0]), Frame: int(n[1])})
	}},
	"window": {regexp.MustCompile(`\Awindow` + number1 + number1 + number1 + `\z`), []uint64{1 << 62, 1 << 62, 1 << 62}, 2, "schedule window", func(m *api.Module, n []uint64, _ []string) {
		x := &m.Schedules[len(m.Schedules)-1]
		x.Windows = append(x.Windows, api.Window{Id: int(n[0]), Offset: int(n[1]), Length: int(n[2])})
	}},
	"need": {regexp.MustCompile(`\Aneed` + number1 + number1 + number1 + `\z`), []uint64{1 << 62, 1 << 62, 1 << 62}, 2, "schedule window need", func(m *api.Module, n []uint64, _ []string) {
		x := &m.Schedules[len(m.Schedules)-1]
		x.Needs = append(x.Needs, api.Need{Id: int(n[0]), Period: int(n[1]), Budget: int(n[2])})
	}},
	"pair": {regexp.MustCompile(`\Apair` + number1 + number1 + `\z`), []uint64{1 << 62, 1 << 62}, 3, "module part cell schedule window need pair act", func(m *api.Module, n []uint64, _ []string) {
		m.Pairs = append(m.Pairs, api.Pair{From: int(n[0]), To: int(n[1])})
	}},
	"act": {regexp.MustCompile(`\Aact` + number1 + number1 + ` (warm|cold)\z`), []uint64{1 << 62, 1 << 62}, 4, "module part cell schedule window need pair act", func(m *api.Module, n []uint64, f []string) {
		m.Acts = append(m.Acts, api.Act{Schedule: int(n[0]), Partition: int(n[1]), Action: map[string]int{"warm": 1, "cold": 2}[f[3]]})
	}},
}

// numbersOf are the numbers of a line of a kind, if none is too great.
func (k kind) numbersOf(f []string) ([]uint64, bool) {
	var l []uint64
	for i, most := range k.most {
		b, _ := new(big.Int).SetString(f[i+1], 10)
		if b.Cmp(new(big.Int).SetUint64(most)) > 0 {
			return nil, false
		}
		l = append(l, b.Uint64())
	}
	return l, true
}

// modelled is what a text is parsed to: the module, or what its error says.
func modelled(s string) (api.Module, string) {
	lines := strings.Split(s, "\n")
	var m api.Module
	ahead, group, ordered := "", 0, true
	for i, line := range lines {
		form := fmt.Sprintf("at %d: form", i)
		if i == len(lines)-1 {
			if line != "" || i == 0 {
				return api.Module{}, form
			}
			break
		}
		word := strings.SplitN(line, " ", 2)[0]
		k, known := kinds[word]
		if !known || ahead == "" != (word == "module") || ahead != "" && !slices.Contains(strings.Fields(k.ahead), ahead) {
			return api.Module{}, form
		}
		f := k.line.FindStringSubmatch(line)
		if f == nil {
			return api.Module{}, form
		}
		n, ok := k.numbersOf(f)
		if !ok {
			return api.Module{}, form
		}
		k.put(&m, n, f)
		ordered = ordered && k.group >= group
		ahead, group = word, k.group
	}
	if _, e := image.Encode(m); e != nil {
		return api.Module{}, fault.Text(e)
	}
	if !ordered {
		return api.Module{}, "at 0: order"
	}
	return m, ""
}

// holds what a text is parsed to against the model; it tells the class.
func holds(t *testing.T, s string) api.Errno {
	t.Helper()
	m, wrong := modelled(s)
	if wrong != "" {
		refuses(t, s, wrong)
	} else {
		parses(t, s, m)
	}
	_, e := Parse(s)
	return fault.Of(e).Error
}

// reworded is a text of which one line, or one word, or one byte is another one.
func reworded(next func(n int) int, s string) string {
	lines := strings.SplitAfter(s, "\n")
	lines = lines[:len(lines)-1]
	i, j := next(len(lines)), next(len(lines))
	switch next(7) {
	case 0: // lines change places
		lines[i], lines[j] = lines[j], lines[i]
	case 1: // one stands somewhere else
		x := lines[i]
		lines = slices.Insert(slices.Delete(lines, i, i+1), min(j, len(lines)-1), x)
	case 2: // one is left out
		lines = slices.Delete(lines, i, i+1)
	case 3: // one stands twice
		lines = slices.Insert(lines, j, lines[i])
	case 4: // a word is another one
		all := []string{"module", "part", "cell", "schedule", "window", "need", "pair", "act", "may", "kept", "warm", "cold", "0", "1", "2", "255", "256", "01", "", "-1", "A", "a", "4294967295", "4294967296", "4611686018427387904", "4611686018427387905", "18446744073709551615", "18446744073709551616"}
		l := strings.Split(strings.TrimSuffix(lines[i], "\n"), " ")
		l[next(len(l))] = all[next(len(all))]
		lines[i] = strings.Join(l, " ") + "\n"
	case 5: // a byte is another one
		b := []byte(lines[i])
		b[next(len(b))] = " \n019tAa_\r\x00\xff"[next(12)]
		lines[i] = string(b)
	case 6: // a byte is left out
		at := next(len(lines[i]))
		lines[i] = lines[i][:at] + lines[i][at+1:]
	}
	return strings.Join(lines, "")
}

func TestParseModel(t *testing.T) { // P34.1, P34.2: any texts
	next := ruled(3)
	seen := map[api.Errno]int{}
	for range 20000 {
		s := printed(mixed(next))
		for range next(4) {
			if s != "" {
				s = reworded(next, s)
			}
		}
		seen[holds(t, s)]++
	}
	if seen[api.OK] < 5000 || seen[api.ErrForm] < 5000 || seen[api.ErrOrder] < 500 || seen[api.ErrRange] < 50 {
		t.Error(seen)
	}
}

func TestLine(t *testing.T) { // P34.1
	for _, r := range []struct {
		line, word string
		numbers    []int
		ok         bool
	}{
		{"window 1 20 3", "window", []int{1, 20, 3}, true},
		{"x", "x", nil, true},
		{"7", "7", nil, true},
		{"7 8", "7", []int{8}, true},
		{"00 0", "00", []int{0}, true},
		{"\xff\x00 4611686018427387904", "\xff\x00", []int{1 << 62}, true},
		{"a 1 2 3 4 5 6 7 8 9 10 11 12", "a", []int{1, 2, 3, 4, 5, 6, 7, 8, 9, 10, 11, 12}, true},
		{"-1 0", "-1", []int{0}, true},
		{"", "", nil, false},
		{" ", "", nil, false},
		{" 1", "", nil, false},
		{" a 1", "", nil, false},
		{"a ", "", nil, false},
		{"a 1 ", "", nil, false},
		{"a  1", "", nil, false},
		{"a 1  2", "", nil, false},
		{"a b", "", nil, false},
		{"a 1 b", "", nil, false},
		{"a b 1", "", nil, false},
		{"a 01", "", nil, false},
		{"a 00", "", nil, false},
		{"a -1", "", nil, false},
		{"a +1", "", nil, false},
		{"a 1 4611686018427387905", "", nil, false},
		{"a 9223372036854775807", "", nil, false},
		{"a 9223372036854775808", "", nil, false},
		{"a 18446744073709551615", "", nil, false},
		{"a 18446744073709551616", "", nil, false},
		{"a 1\n", "", nil, false},
		{"a 1\r", "", nil, false},
		{"a 1\t2", "", nil, false},
		{"a 1_0", "", nil, false},
		{"part 1 NAV", "", nil, false},
		{"cell 1 kept", "", nil, false},
	} {
		if w, n, ok := Line(r.line); w != r.word || !slices.Equal(n, r.numbers) || ok != r.ok {
			t.Errorf("%q: %q %v %v", r.line, w, n, ok)
		}
	}
	long := slices.Repeat([]int{7}, 1<<20)
	if w, n, ok := Line("a" + strings.Repeat(" 7", 1<<20)); w != "a" || !slices.Equal(n, long) || !ok {
		t.Error(w, len(n), ok)
	}
	if w, n, ok := Line(strings.Repeat("a", 1<<20) + " 5"); len(w) != 1<<20 || !slices.Equal(n, []int{5}) || !ok {
		t.Error(len(w), n, ok)
	}
	if w, n, ok := Line("a" + strings.Repeat(" ", 1<<20)); w != "" || n != nil || ok {
		t.Error(len(w), n, ok)
	}
}

func TestLineModel(t *testing.T) { // P34.1
	next := ruled(4)
	right := regexp.MustCompile(`(?s)\A([^ ]+)((?: (?:0|[1-9][0-9]*))*)\z`)
	most := big.NewInt(1 << 62)
	yes := 0
	for range 30000 {
		words := []string{"a", "part", "0", "1", "12", "255", "4611686018427387904", "4611686018427387905", "9223372036854775808", "01", "", "-1", "x1", "\n", "7\n"}
		var l []string
		for i := range 1 + next(4) {
			w := words[next(len(words))]
			if i > 0 && next(4) > 0 { // mostly numbers
				w = words[2+next(5)]
			}
			l = append(l, w)
		}
		s := strings.Join(l, " ")
		var want []int
		f := right.FindStringSubmatch(s)
		ok := f != nil
		if ok {
			for _, w := range strings.Fields(f[2]) {
				b, _ := new(big.Int).SetString(w, 10)
				ok = ok && b.Cmp(most) <= 0
				want = append(want, int(b.Int64()))
			}
		}
		word := ""
		if ok {
			word = f[1]
			yes++
		} else {
			want = nil
		}
		if w, n, is := Line(s); is != ok || w != word || !slices.Equal(n, want) {
			t.Fatalf("%q: %q %v %v", s, w, n, is)
		}
	}
	if yes < 10000 || yes > 25000 {
		t.Error(yes)
	}
}

func TestCount(t *testing.T) { // P34.1
	for _, r := range []struct {
		s, word string
		n       int
	}{
		{full, "module", 1}, {full, "part", 4}, {full, "cell", 4}, {full, "schedule", 4}, {full, "window", 4}, {full, "need", 3}, {full, "pair", 3}, {full, "act", 3},
		{full, "", 0}, {full, "par", 0}, {full, "parts", 0}, {full, "0", 0}, {full, "part 0", 0}, {full, "part ", 0}, {full, " part", 0}, {full, "\n", 0}, {full, "part\n", 0}, {full, "PART", 0}, {full, "may", 0},
		{"", "", 0}, {"", "a", 0}, {"\n", "", 0}, {"\n\n\n", "", 0}, {"\n", "\n", 0},
		{"a", "a", 1}, {"a\n", "a", 1}, {"a\na", "a", 2}, {"a 1\nab\na\nb a\n\na b", "a", 3},
		{" ", "", 1}, {" a\n \n\na \n  ", "", 3}, {" a\n", "a", 0}, {" a\n", " a", 0}, {"a a a\n", "a", 1}, {"a\r\na\n", "a", 1}, {"a\r\n", "a\r", 1}, {"a\tb\n", "a", 0}, {"\n\na\n\n", "a", 1},
		{"\xff 1\n\xff\n", "\xff", 2}, {strings.Repeat("a\n", 1<<20), "a", 1 << 20}, {strings.Repeat("a", 1<<20), "a", 0},
	} {
		if n := Count(r.s, r.word); n != r.n {
			t.Errorf("%.50q %q: %d, not %d", r.s, r.word, n, r.n)
		}
	}
	next := ruled(5)
	for range 5000 {
		b := make([]byte, next(40))
		for i := range b {
			b[i] = " \nab"[next(4)]
		}
		want := map[string]int{}
		for _, line := range strings.Split(string(b), "\n") {
			if line != "" {
				want[strings.Split(line, " ")[0]]++
			}
		}
		for _, word := range []string{"", "a", "b", "ab", "ba", "aa", " ", "a ", "\n"} {
			if n := Count(string(b), word); n != want[word] {
				t.Fatalf("%q %q: %d, not %d", b, word, n, want[word])
			}
		}
	}
}

func TestNothingShared(t *testing.T) { // P34.1: no two lists of what is told share any memory, and two answers share none
	parsed := func() api.Module {
		m, e := Parse(full)
		if e != nil {
			t.Fatal(e)
		}
		return m
	}
	a, b := parsed(), parsed()
	for i, p := range a.Parts {
		_ = append(p.Cells, api.Cell{Value: 99}, api.Cell{Value: 99}, api.Cell{Value: 99})
		clear(a.Parts[i].Cells)
	}
	for i, x := range a.Schedules {
		_ = append(x.Windows, api.Window{Id: 99}, api.Window{Id: 99})
		_ = append(x.Needs, api.Need{Id: 99}, api.Need{Id: 99})
		clear(a.Schedules[i].Windows)
		clear(a.Schedules[i].Needs)
	}
	clear(a.Parts)
	clear(a.Schedules)
	clear(a.Pairs)
	clear(a.Acts)
	if !image.Same(b, fullModule()) || !image.Same(parsed(), fullModule()) {
		t.Error(b)
	}
	c := parsed()
	clear(c.Parts[0].Cells)
	clear(c.Schedules[0].Windows)
	if c.Parts[2].Cells[0].Value != 12 || c.Schedules[3].Windows[0].Offset != 1 || c.Schedules[0].Needs[0].Period != 4 {
		t.Error(c)
	}
	_, n, _ := Line("a 1 2")
	_, o, _ := Line("a 1 2")
	clear(n)
	if !slices.Equal(o, []int{1, 2}) {
		t.Error(o)
	}
}
