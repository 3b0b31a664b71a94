package script

import (
	"fmt"
	"math"
	"math/big"
	"regexp"
	"slices"
	"strconv"
	"strings"
	"testing"

	"countwheel/api"
	"countwheel/fault"
)

// ruled is a row of numbers that a rule makes, each of which is below what it is asked with.
func ruled(x uint64) func(n int) int {
	return func(n int) int {
		x = x*6364136223846793005 + 1442695040888963407
		return int(x>>33) % n
	}
}

// all is a script in its form that has each line.
const all = "tick 2\nset 1\nstatus\nmode idle\nmode cold\nmode warm\nmode normal\ntick 1\nread 0\nread 255\nwrite 3 4294967295\nwrite 0 0\ntick 10\n"

// steps are those of all.
func steps() []api.Step {
	l := []api.Step{
		{}, {},
		{Kind: api.SetSched, Arg: 1},
		{Kind: api.GetStatus},
		{Kind: api.SetMode, Arg: api.Idle}, {Kind: api.SetMode, Arg: api.Cold}, {Kind: api.SetMode, Arg: api.Warm}, {Kind: api.SetMode, Arg: api.Normal},
		{},
		{Kind: api.ReadCell}, {Kind: api.ReadCell, Arg: 255},
		{Kind: api.WriteCell, Arg: 3, Value: 1<<32 - 1}, {Kind: api.WriteCell},
	}
	return append(l, make([]api.Step, 10)...)
}

// is tells whether an error is of a class at a place, with that place as its one wrap.
func is(e error, k api.Errno, at int) bool {
	return fault.Of(e) == (api.Fault{Error: k, At: at}) && fault.Text(e) == fmt.Sprintf("at %d: %s", at, fault.Name(k))
}

// parses holds what a text is parsed to.
func parses(t *testing.T, s string, want []api.Step) {
	t.Helper()
	if l, e := Parse(s); e != nil || !slices.Equal(l, want) {
		t.Fatalf("%.100q %v %v", s, l, e)
	}
}

// refuses holds that a text is none.
func refuses(t *testing.T, s string, k api.Errno, at int) {
	t.Helper()
	if l, e := Parse(s); len(l) != 0 || !is(e, k, at) {
		t.Fatalf("%.100q %d %v", s, len(l), e)
	}
}

func TestWrittenOut(t *testing.T) { // P26.1, P26.2
	parses(t, all, steps())
	if s, e := Print(steps()); s != all || e != nil {
		t.Error(s, e)
	}
	parses(t, "", nil)
	for _, l := range [][]api.Step{nil, {}} {
		if s, e := Print(l); s != "" || e != nil {
			t.Error(s, e)
		}
	}
}

func TestNumbers(t *testing.T) { // P26.1: the edges of each number
	numbers := map[string][2]uint64{"tick %s": {1, api.MaxSteps}, "set %s": {0, 255}, "read %s": {0, 255}, "write %s 7": {0, 255}, "write 7 %s": {0, 1<<32 - 1}}
	for line, r := range numbers {
		for _, n := range []uint64{0, 1, 2, 9, 10, 99, 254, 255, 256, 65535, 65536, 65537, 1<<31 - 1, 1 << 31, 1<<32 - 1, 1 << 32, 1<<32 + 1, 1<<63 - 1, 1 << 63, math.MaxUint64} {
			text := strconv.FormatUint(n, 10)
			l, e := Parse(fmt.Sprintf(line, text) + "\n")
			if may := n >= r[0] && n <= r[1]; may != (e == nil) || !may && (!is(e, api.ErrForm, 0) || len(l) != 0) {
				t.Error(line, n, len(l), e)
			}
		}
		for _, no := range []string{"", "-1", "+1", "-0", "00", "01", "007", "1.0", "1e1", "0x1", "1_0", " 1", "1 ", "1\r", "1\t", "a", "٣", "18446744073709551616", "18446744073709551617", "4294967297000000000000", strings.Repeat("1", 1000), strings.Repeat("0", 1000), "1" + strings.Repeat("0", 64), "1\x00"} {
			refuses(t, fmt.Sprintf(line, no)+"\n", api.ErrForm, 0)
		}
	}
	parses(t, "set 255\n", []api.Step{{Kind: 1, Arg: 255}})
	parses(t, "write 255 4294967295\n", []api.Step{{Kind: 5, Arg: 255, Value: 1<<32 - 1}})
	parses(t, "write 0 255\n", []api.Step{{Kind: 5, Value: 255}})
	parses(t, "tick 65536\n", make([]api.Step, api.MaxSteps))
}

func TestNoLines(t *testing.T) { // P26.1: lines that aren't any
	for _, s := range []string{
		"\n", " \n", "\r\n", "tick\n", "tick \n", "tick  1\n", " tick 1\n", "tick 1 \n", "tick 1 1\n", "tick\t1\n", "Tick 1\n", "TICK 1\n", "tic 1\n", "ticks 1\n", "tick1\n", "1 tick\n", "1\n",
		"set\n", "set a\n", "set 1 1\n", "set warm\n",
		"status 1\n", "status \n", "status 0\n", " status\n", "Status\n", "statu\n", "status\r\n", "statusstatus\n",
		"mode\n", "mode \n", "mode up\n", "mode Warm\n", "mode warm \n", "mode warm cold\n", "mode 1\n", "mode  warm\n", "mode warmer\n", "mode war\n",
		"read\n", "read a\n", "read 0 0\n", "write\n", "write 1\n", "write 1 1 1\n", "write  1 1\n", "write 1  1\n", "write 1 1 \n", "write 1 \n",
		"tick 1;\n", "\x00\n", "\xff\n", "tick\u00a01\n", "tick 1\v\n", "tick 1\u2028\n", "schedule 1\n", "get\n", "now\n", "tick 1\x0d\x0a",
	} {
		refuses(t, s, api.ErrForm, 0)
		refuses(t, "tick 5\n"+s, api.ErrForm, 1)
		refuses(t, all+s+all, api.ErrForm, 13)
		refuses(t, "status\n"+s+"set 256\n", api.ErrForm, 1) // the first one
	}
}

func TestLastWithoutEnd(t *testing.T) { // P26.1
	refuses(t, "tick 1", api.ErrForm, 0)
	refuses(t, "status", api.ErrForm, 0)
	refuses(t, "tick 1\nset 2", api.ErrForm, 1)
	refuses(t, "tick 1\n ", api.ErrForm, 1)
	refuses(t, "tick 1\nset", api.ErrForm, 1)
	for n := range len(all) {
		if n > 0 && all[n-1] == '\n' {
			if l, e := Parse(all[:n]); e != nil || len(l) == 0 {
				t.Error(n, l, e)
			}
		} else if n > 0 {
			refuses(t, all[:n], api.ErrForm, strings.Count(all[:n], "\n"))
		}
	}
}

func TestMany(t *testing.T) { // P26.1
	refuses(t, "tick 65536\ntick 1\n", api.ErrMany, 1)
	refuses(t, "tick 65536\nstatus\n", api.ErrMany, 1)
	refuses(t, "status\ntick 65536\n", api.ErrMany, 1)
	refuses(t, "tick 65535\nstatus\nset 1\ntick 4\n", api.ErrMany, 2)
	refuses(t, "tick 65530\nset 1\ntick 5\ntick 1\ntick 65536\n", api.ErrMany, 3)
	refuses(t, "tick 40000\ntick 40000\nstatus\nstatus\n", api.ErrMany, 1) // the line by which there come to be more
	refuses(t, strings.Repeat("status\n", api.MaxSteps+1), api.ErrMany, api.MaxSteps)
	refuses(t, strings.Repeat("tick 1\n", api.MaxSteps+5), api.ErrMany, api.MaxSteps)
	refuses(t, strings.Repeat("tick 65536\n", 1<<16), api.ErrMany, 1) // it ends soon
	parses(t, "tick 65535\nset 2\n", append(make([]api.Step, 65535), api.Step{Kind: 1, Arg: 2}))
	parses(t, "set 2\ntick 65535\n", append([]api.Step{{Kind: 1, Arg: 2}}, make([]api.Step, 65535)...))
	parses(t, strings.Repeat("status\n", api.MaxSteps), slices.Repeat([]api.Step{{Kind: 2}}, api.MaxSteps))
	// The form is told of first, wherever it is wrong.
	refuses(t, "tick 65536\ntick 1\ntick 0\n", api.ErrForm, 2)
	refuses(t, "tick 65536\ntick 1\ntick 1", api.ErrForm, 2)
	refuses(t, "tick 65536\nbad\ntick 1\n", api.ErrForm, 1)
}

// kinds are each step that a script can have, by an expression for its line whose numbers are up to most.
var kinds = []struct {
	kind int
	line *regexp.Regexp
	most []int64
}{
	{api.Tick, regexp.MustCompile(`\Atick ([1-9][0-9]*)\z`), []int64{1 << 16}},
	{api.SetSched, regexp.MustCompile(`\Aset (0|[1-9][0-9]*)\z`), []int64{255}},
	{api.GetStatus, regexp.MustCompile(`\Astatus\z`), nil},
	{api.SetMode, regexp.MustCompile(`\Amode (idle|cold|warm|normal)\z`), nil},
	{api.ReadCell, regexp.MustCompile(`\Aread (0|[1-9][0-9]*)\z`), []int64{255}},
	{api.WriteCell, regexp.MustCompile(`\Awrite (0|[1-9][0-9]*) (0|[1-9][0-9]*)\z`), []int64{255, 1<<32 - 1}},
}

// made are the steps of a line, by these expressions; none of what is no line.
func made(line string) []api.Step {
	for _, k := range kinds {
		found := k.line.FindStringSubmatch(line)
		if found == nil {
			continue
		}
		var n []int64
		for i, most := range k.most {
			b, _ := new(big.Int).SetString(found[i+1], 10)
			if b.Cmp(big.NewInt(most)) > 0 {
				return nil
			}
			n = append(n, b.Int64())
		}
		x := api.Step{Kind: k.kind}
		switch k.kind {
		case api.Tick:
			return make([]api.Step, n[0])
		case api.SetMode:
			x.Arg = slices.Index([]string{"idle", "cold", "warm", "normal"}, found[1])
		case api.WriteCell:
			x.Arg, x.Value = int(n[0]), uint32(n[1])
		case api.SetSched, api.ReadCell:
			x.Arg = int(n[0])
		}
		return []api.Step{x}
	}
	return nil
}

// modelled is what a text is parsed to: the steps, or a class and a place.
func modelled(s string) ([]api.Step, api.Errno, int) {
	lines := strings.Split(s, "\n")
	last := len(lines) - 1
	var l []api.Step
	many := -1
	for i, line := range lines[:last] {
		x := made(line)
		if x == nil {
			return nil, api.ErrForm, i
		}
		if l = append(l, x...); len(l) > api.MaxSteps && many < 0 {
			many = i
		}
	}
	switch {
	case lines[last] != "":
		return nil, api.ErrForm, last
	case many >= 0:
		return nil, api.ErrMany, many
	}
	return l, api.OK, 0
}

// holds what a text is parsed to against the model.
func holds(t *testing.T, s string) api.Errno {
	t.Helper()
	want, k, at := modelled(s)
	if k != api.OK {
		refuses(t, s, k, at)
	} else {
		parses(t, s, want)
	}
	return k
}

// word is one that a line may have, or may not.
func word(next func(n int) int) string {
	words := []string{"tick", "set", "status", "mode", "read", "write", "idle", "cold", "warm", "normal", "0", "1", "255", "256", "65536", "65537", "4294967295", "4294967296", "00", "01", "", "-1", "x"}
	return words[next(len(words))]
}

// text is a script, or nearly one.
func text(next func(n int) int) string {
	var b strings.Builder
	for range next(6) {
		n := func() string {
			return []string{"0", "1", "2", "7", "12", "254", "255", strconv.Itoa(next(300)), strconv.Itoa(next(1 << 31)), "65536"}[next(10)]
		}
		small := strconv.Itoa(next(256))
		switch next(8) {
		case 0, 1:
			b.WriteString("tick " + n())
		case 2:
			b.WriteString("set " + small)
		case 3:
			b.WriteString("status")
		case 4:
			b.WriteString("mode " + word(next))
		case 5:
			b.WriteString("read " + small)
		case 6:
			b.WriteString("write " + small + " " + n())
		case 7:
			b.WriteString(word(next) + " " + word(next))
		}
		b.WriteByte('\n')
	}
	return b.String()
}

// worn is a text of which one byte is another one, is left out, or stands twice.
func worn(next func(n int) int, s string) string {
	if s == "" {
		return s
	}
	i := next(len(s))
	switch next(3) {
	case 0:
		return s[:i] + string([]byte{" \n019tasx\r\x00\xff"[next(12)]}) + s[i+1:]
	case 1:
		return s[:i] + s[i+1:]
	}
	return s[:i+1] + s[i:]
}

func TestParseModel(t *testing.T) { // P26.1: any texts
	next := ruled(1)
	seen := map[api.Errno]int{}
	for range 10000 {
		s := text(next)
		if next(2) == 0 {
			s = worn(next, s)
		}
		seen[holds(t, s)]++
	}
	if seen[api.OK] < 1000 || seen[api.ErrForm] < 3000 || seen[api.ErrMany] < 50 {
		t.Error(seen)
	}
	for range 300 {
		holds(t, worn(next, all))
	}
	for range 3000 { // of two and three words
		s := word(next) + " " + word(next)
		if next(2) == 0 {
			s += " " + word(next)
		}
		holds(t, s+"\n")
	}
}

// right tells whether a script can have a step, by the chapter's table.
func right(x api.Step) bool {
	arg := map[int]int{api.Tick: 0, api.SetSched: 255, api.GetStatus: 0, api.SetMode: 3, api.ReadCell: 255, api.WriteCell: 255}
	most, known := arg[x.Kind]
	return known && x.Arg >= 0 && x.Arg <= most && (x.Value == 0 || x.Kind == api.WriteCell)
}

func TestRight(t *testing.T) { // P26.1
	kinds := []int{math.MinInt, -256, -2, -1, 0, 1, 2, 3, 4, 5, 6, 7, 256, 257, 1 << 32, 1<<32 + 1, math.MaxInt}
	args := []int{math.MinInt, -1 << 32, -256, -1, 0, 1, 2, 3, 4, 5, 254, 255, 256, 257, 65536, 1 << 32, 1<<32 + 1, math.MaxInt}
	for _, kind := range kinds {
		for _, arg := range args {
			for _, v := range []uint32{0, 1, 255, 256, 1<<32 - 1} {
				x := api.Step{Kind: kind, Arg: arg, Value: v}
				want := right(x)
				if Right(x) != want {
					t.Error(x, !want)
				}
				s, e := Print([]api.Step{{}, x})
				if want != (e == nil) || !want && (s != "" || !is(e, api.ErrForm, 1)) {
					t.Error(x, s, e)
				}
				if l, e := Parse(s); want && (e != nil || !slices.Equal(l, []api.Step{{}, x})) {
					t.Error(x, l, e)
				}
			}
		}
	}
}

// some are n steps that a script can have, with rows of Ticks among them.
func some(next func(n int) int, n int) []api.Step {
	var l []api.Step
	for len(l) < n {
		x := api.Step{Kind: next(6)}
		switch x.Kind {
		case api.Tick:
			l = append(l, make([]api.Step, next(4))...)
		case api.SetMode:
			x.Arg = next(4)
		case api.WriteCell:
			x.Arg, x.Value = next(256), uint32(next(1<<31))*2+uint32(next(2))
		case api.SetSched, api.ReadCell:
			x.Arg = next(256)
		}
		l = append(l, x)
	}
	return l[:n]
}

// behind tells whether a line of a tick stands right behind another one.
func behind(s string) bool {
	was := false
	for _, line := range strings.Split(s, "\n") {
		now := strings.HasPrefix(line, "tick")
		if was && now {
			return true
		}
		was = now
	}
	return false
}

func TestParseOfPrint(t *testing.T) { // P26.2: it is the steps, and what is printed is in its form
	next := ruled(2)
	for range 3000 {
		l := some(next, next(40))
		given := slices.Clone(l)
		s, e := Print(l)
		if e != nil || !slices.Equal(l, given) || behind(s) {
			t.Fatal(l, s, e)
		}
		parses(t, s, given)
		lines := 0
		for i, x := range l { // as many lines as there are rows of Ticks, and others
			if x.Kind != api.Tick || i == 0 || l[i-1].Kind != api.Tick {
				lines++
			}
		}
		if Lines(s) != lines {
			t.Fatal(l, s)
		}
	}
}

func TestPrintOfParse(t *testing.T) { // P26.2: of a script in its form it is just that
	next := ruled(3)
	same, other := 0, 0
	for range 10000 {
		s := text(next)
		l, e := Parse(s)
		if e != nil {
			continue
		}
		p, e := Print(l)
		if e != nil {
			t.Fatal(s, e)
		}
		if !behind(s) {
			same++
			if p != s {
				t.Fatalf("%q %q", s, p)
			}
			continue
		}
		other++
		if p == s {
			t.Fatalf("%q", s)
		}
	}
	if same < 800 || other < 50 {
		t.Error(same, other)
	}
	for _, s := range []string{"", "tick 65536\n", "tick 65535\nstatus\n", "set 1\ntick 65535\n"} {
		l, _ := Parse(s)
		if p, e := Print(l); p != s || e != nil {
			t.Errorf("%q %q %v", s, p, e)
		}
	}
	l, _ := Parse("tick 1\ntick 2\nset 1\ntick 3\ntick 1\n")
	if p, e := Print(l); p != "tick 3\nset 1\ntick 4\n" || e != nil {
		t.Errorf("%q %v", p, e)
	}
}

func TestPrintRefuses(t *testing.T) { // P26.1: the first step that no script can have, then too many
	no := api.Step{Kind: 6}
	long := make([]api.Step, api.MaxSteps+1)
	for _, r := range []struct {
		l  []api.Step
		k  api.Errno
		at int
	}{
		{[]api.Step{no}, api.ErrForm, 0},
		{[]api.Step{{}, {Kind: 2}, no, {Arg: 1}}, api.ErrForm, 2},
		{[]api.Step{{Value: 1}, no}, api.ErrForm, 0},
		{append(steps(), api.Step{Kind: 1, Arg: 256}), api.ErrForm, 23},
		{long, api.ErrMany, 0},
		{slices.Repeat([]api.Step{{Kind: 2}}, api.MaxSteps+1), api.ErrMany, 0},
		{make([]api.Step, 5*api.MaxSteps), api.ErrMany, 0},
		{append(slices.Clone(long), no), api.ErrForm, api.MaxSteps + 1},
		{append([]api.Step{{}, no}, long...), api.ErrForm, 1},
	} {
		if s, e := Print(r.l); s != "" || !is(e, r.k, r.at) {
			t.Error(len(r.l), s, e)
		}
	}
	if s, e := Print(long[1:]); s != "tick 65536\n" || e != nil {
		t.Errorf("%.50q %v", s, e)
	}
	if s, e := Print(slices.Repeat([]api.Step{{Kind: 2}}, api.MaxSteps)); s != strings.Repeat("status\n", api.MaxSteps) || e != nil {
		t.Errorf("%.50q %v", s, e)
	}
}

// loose are n steps, of which some are no step that there may be.
func loose(next func(n int) int, n int) []api.Step {
	l := some(next, n)
	for i := range l {
		if next(5) == 0 {
			l[i] = api.Step{Kind: []int{0, 0, 6, -1, 1 << 32}[next(5)], Arg: next(3) - 1, Value: uint32(next(2))}
		}
	}
	return l
}

func TestTicksAndCut(t *testing.T) { // P26.1
	next := ruled(4)
	for range 2000 {
		l := loose(next, next(20))
		given := slices.Clone(l)
		var at []int // where Ticks stand
		for i, x := range l {
			if x.Kind == 0 {
				at = append(at, i)
			}
		}
		if Ticks(l) != len(at) {
			t.Fatal(l, Ticks(l))
		}
		for _, n := range []int{math.MinInt, -2, -1, 0, 1, 2, 3, 4, 5, 6, 7, 8, 20, 21, 1 << 32, 1<<32 + 1, math.MaxInt} {
			want := len(l)
			switch {
			case n < 1 && len(at) > 0:
				want = at[0]
			case n >= 1 && n <= len(at):
				want = at[n-1] + 1
			}
			if c := Cut(l, n); !slices.Equal(c, l[:want]) {
				t.Fatal(l, n, c)
			}
		}
		if !slices.Equal(l, given) {
			t.Fatal("changed")
		}
	}
	if Ticks(nil) != 0 || Ticks(steps()) != 13 || len(Cut(nil, 0)) != 0 || len(Cut(nil, 1)) != 0 {
		t.Error("of none")
	}
}

func TestCutWrittenOut(t *testing.T) { // P26.1
	tick, a, b := api.Step{}, api.Step{Kind: 2}, api.Step{Kind: 1, Arg: 3}
	l := []api.Step{a, tick, b, tick, a}
	for n, want := range map[int][]api.Step{-1: {a}, 0: {a}, 1: {a, tick}, 2: {a, tick, b, tick}, 3: l, 99: l} {
		if c := Cut(l, n); !slices.Equal(c, want) {
			t.Error(n, c)
		}
	}
	for _, n := range []int{-1, 0, 1, 2} { // there is no Tick
		if c := Cut([]api.Step{a, b}, n); !slices.Equal(c, []api.Step{a, b}) {
			t.Error(n, c)
		}
	}
	if c := Cut([]api.Step{tick, a}, 0); len(c) != 0 {
		t.Error(c)
	}
}

func TestOnly(t *testing.T) { // P26.1
	next := ruled(5)
	for range 2000 {
		l := loose(next, next(20))
		given := slices.Clone(l)
		mask := next(64)
		keep := func(x api.Step) bool { return mask>>uint(x.Kind&7)&1 == 1 && x.Arg%2 == 0 }
		var ticks, want []api.Step
		for _, x := range l {
			if x.Kind == 0 {
				ticks = append(ticks, x)
			}
			if x.Kind == 0 || keep(x) {
				want = append(want, x)
			}
		}
		if o := Only(l, keep); !slices.Equal(o, want) {
			t.Fatal(l, o, want)
		}
		if o := Only(l, nil); !slices.Equal(o, ticks) {
			t.Fatal(l, o)
		}
		if o := Only(l, func(api.Step) bool { return true }); !slices.Equal(o, l) {
			t.Fatal(l, o)
		}
		if o := Only(l, func(api.Step) bool { return false }); !slices.Equal(o, ticks) {
			t.Fatal(l, o)
		}
		if !slices.Equal(l, given) {
			t.Fatal("changed")
		}
	}
	if len(Only(nil, nil)) != 0 || len(Only(nil, func(api.Step) bool { return true })) != 0 {
		t.Error("of none")
	}
}

func TestOnlyPanics(t *testing.T) { // P26.1: what keep doesn't say yes to isn't there, also where it panics
	l := []api.Step{{}, {Kind: 2}, {Kind: 1, Arg: 3}, {}, {Kind: 4}}
	o := Only(l, func(x api.Step) bool {
		if x.Kind == 1 {
			panic("no")
		}
		return x.Kind != 2
	})
	if !slices.Equal(o, []api.Step{{}, {}, {Kind: 4}}) {
		t.Error(o)
	}
}

func TestNothingShared(t *testing.T) { // P26.1: what is told is new memory, and leaves spare room as it is
	l := make([]api.Step, 6, 20)
	copy(l, []api.Step{{Kind: 2}, {}, {}, {Kind: 1, Arg: 3}, {}, {Kind: 4}})
	spare := l[:cap(l)]
	given := slices.Clone(spare)
	yes := func(api.Step) bool { return true }
	for _, o := range [][]api.Step{Cut(l, 0), Cut(l, 1), Cut(l, 3), Cut(l, 9), Only(l, nil), Only(l, yes)} {
		o = o[:cap(o)]
		for i := range o {
			o[i] = api.Step{Kind: 5, Arg: 8}
		}
		if !slices.Equal(spare, given) {
			t.Fatal(spare)
		}
	}
	if s, e := Print(l); s != "status\ntick 2\nset 3\ntick 1\nread 0\n" || e != nil || !slices.Equal(spare, given) {
		t.Error(s, e)
	}
	a, _ := Parse(all)
	b, _ := Parse(all)
	clear(a)
	if !slices.Equal(b, steps()) {
		t.Error(b)
	}
}

func TestLines(t *testing.T) { // P26.1
	for s, want := range map[string]int{"": 0, "a": 0, "\n": 1, "a\nb": 1, "a\nb\n": 2, "\n\n\n": 3, "\r\n\r": 1, "a\\n": 0, "\u2028\u0085\v\f": 0, "\xff\n\x00\n": 2, all: 13} {
		if Lines(s) != want {
			t.Errorf("%q %d", s, Lines(s))
		}
	}
}
