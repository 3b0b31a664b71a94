package check

import (
	"strings"
	"testing"

	"countwheel/api"
	"countwheel/fault"
	"countwheel/image"
)

// ruled is a row of numbers that a rule makes, each of which is below what it is asked with.
func ruled(x uint64) func(n int) int {
	return func(n int) int {
		x = x*6364136223846793005 + 1442695040888963407
		return int(x>>33) % n
	}
}

// model is a module, and all that is wrong with it, found another way: in order, and up to where what is wrong ends the asking.
type model struct {
	m     api.Module
	wrong []string
}

// ask notes what is wrong, if something is.
func (x *model) ask(bad bool, text string) {
	if bad {
		x.wrong = append(x.wrong, text)
	}
}

// at is a place's text.
func at(section string, l ...int) string {
	s := "section " + section + ": "
	for _, i := range l {
		s += "at " + digits(i) + ": "
	}
	return s
}

// digits are a number's.
func digits(n int) string {
	if n < 10 {
		return string(rune('0' + n))
	}
	return digits(n/10) + string(rune('0'+n%10))
}

// between tells whether a number is from the one to the other.
func between(n, least, greatest int) bool { return least <= n && n <= greatest }

// isName tells whether a text may be a partition's name.
func isName(s string) bool {
	return between(len(s), 1, 16) && strings.Trim(s, "ABCDEFGHIJKLMNOPQRSTUVWXYZ0123456789_") == "" && between(int(s[0]), 'A', 'Z')
}

// partition tells whether an id is a partition's.
func (x *model) partition(id int) bool {
	for _, p := range x.m.Parts {
		if p.Id == id {
			return true
		}
	}
	return false
}

// schedule tells whether an id is a schedule's.
func (x *model) schedule(id int) bool {
	for _, s := range x.m.Schedules {
		if s.Id == id {
			return true
		}
	}
	return false
}

// parts asks whether the partitions are right.
func (x *model) parts() {
	for i, p := range x.m.Parts {
		x.ask(!between(p.Id, 0, 255), at("2", i)+"range")
		x.ask(!isName(p.Name), at("2", i)+"name")
		x.ask(len(p.Cells) > 16, at("2", i)+"many")
		for j, q := range x.m.Parts[:i] {
			x.ask(j == i-1 && q.Id >= p.Id, at("2", i)+"order")
		}
		for _, q := range x.m.Parts[:i] {
			x.ask(q.Name == p.Name, at("2", i)+"name")
		}
	}
	x.ask(!between(len(x.m.Parts), 1, 32), at("2")+"many")
}

// numbers asks whether a schedule's may be.
func (x *model) numbers(i int, s api.Schedule) {
	x.ask(!between(s.Id, 0, 255) || !between(s.Frame, 1, most), at("3", i)+"range")
	x.ask(len(s.Windows) > 256, at("3", i)+"many")
	for _, w := range s.Windows {
		x.ask(!between(w.Id, 0, 255) || !between(w.Offset, 0, most) || !between(w.Length, 0, most), at("3", i)+"range")
	}
	x.ask(len(s.Needs) > 32, at("3", i)+"many")
	for _, n := range s.Needs {
		x.ask(!between(n.Id, 0, 255) || !between(n.Period, 0, most) || !between(n.Budget, 0, most), at("3", i)+"range")
	}
}

// windows asks whether a schedule's are right.
func (x *model) windows(i int, s api.Schedule) {
	for j, w := range s.Windows {
		x.ask(!x.partition(w.Id), at("3", i, j)+"reference")
		x.ask(w.Length < 1 || w.Offset < 0 || w.Offset+w.Length > s.Frame, at("3", i, j)+"window")
		x.ask(j > 0 && w.Offset < s.Windows[max(j-1, 0)].Offset, at("3", i, j)+"order")
		x.ask(j > 0 && w.Offset < s.Windows[max(j-1, 0)].Offset+s.Windows[max(j-1, 0)].Length, at("3", i, j)+"overlap")
	}
}

// met tells whether a partition has its ticks in each period.
func met(s api.Schedule, n api.Need) bool {
	for from := 0; from < s.Frame; from += n.Period {
		have := 0
		for t := from; t < from+n.Period; t++ {
			for _, w := range s.Windows {
				if w.Id == n.Id && between(t, w.Offset, w.Offset+w.Length-1) {
					have++
				}
			}
		}
		if have < n.Budget {
			return false
		}
	}
	return n.Budget <= n.Period
}

// needs asks whether a schedule gives what it is to give.
func (x *model) needs(i int, s api.Schedule) {
	for j, n := range s.Needs {
		if len(x.wrong) > 0 {
			return // a period, or windows, that may not be can't be gone through
		}
		x.ask(!x.partition(n.Id), at("3", i, j)+"reference")
		x.ask(j > 0 && s.Needs[max(j-1, 0)].Id >= n.Id, at("3", i, j)+"order")
		x.ask(n.Period < 1 || s.Frame%n.Period > 0, at("3", i, j)+"period")
		x.ask(len(x.wrong) == 0 && !met(s, n), at("3", i, j)+"budget")
	}
}

// rest asks whether the transitions, and the acts, are right.
func (x *model) rest() {
	for i, p := range x.m.Pairs {
		q := x.m.Pairs[max(i-1, 0)]
		x.ask(!x.schedule(p.From) || !x.schedule(p.To), at("4", i)+"reference")
		x.ask(p.From == p.To, at("4", i)+"pair")
		x.ask(i > 0 && (q.From > p.From || q.From == p.From && q.To >= p.To), at("4", i)+"order")
	}
	x.ask(len(x.m.Pairs) > 240, at("4")+"many")
	for i, a := range x.m.Acts {
		b := x.m.Acts[max(i-1, 0)]
		x.ask(!x.schedule(a.Schedule) || !x.partition(a.Partition), at("5", i)+"reference")
		x.ask(!between(a.Action, 1, 2), at("5", i)+"form")
		x.ask(i > 0 && (b.Schedule > a.Schedule || b.Schedule == a.Schedule && b.Partition >= a.Partition), at("5", i)+"order")
	}
	x.ask(len(x.m.Acts) > 512, at("5")+"many")
}

// text is of what is wrong with a module; empty, if nothing is.
func text(m api.Module) string {
	x := &model{m: m}
	x.ask(!x.schedule(m.First), at("1")+"reference")
	x.parts()
	for i, s := range m.Schedules {
		x.numbers(i, s)
		x.ask(i > 0 && m.Schedules[max(i-1, 0)].Id >= s.Id, at("3", i)+"order")
		x.windows(i, s)
		x.needs(i, s)
	}
	x.ask(!between(len(m.Schedules), 1, 16), at("3")+"many")
	x.rest()
	if len(x.wrong) == 0 {
		return ""
	}
	return x.wrong[0]
}

// places are a module's numbers.
func places(m *api.Module) []*int {
	l := []*int{&m.First}
	for i := range m.Parts {
		l = append(l, &m.Parts[i].Id)
	}
	for i := range m.Schedules {
		x := &m.Schedules[i]
		l = append(l, &x.Id, &x.Frame)
		for j := range x.Windows {
			l = append(l, &x.Windows[j].Id, &x.Windows[j].Offset, &x.Windows[j].Length)
		}
		for j := range x.Needs {
			l = append(l, &x.Needs[j].Id, &x.Needs[j].Period, &x.Needs[j].Budget)
		}
	}
	for i := range m.Pairs {
		l = append(l, &m.Pairs[i].From, &m.Pairs[i].To)
	}
	for i := range m.Acts {
		l = append(l, &m.Acts[i].Schedule, &m.Acts[i].Partition, &m.Acts[i].Action)
	}
	return l
}

// cut is a list without one of its things.
func cut[T any](l []T, next func(n int) int) []T {
	if len(l) == 0 {
		return l
	}
	i := next(len(l))
	return append(l[:i:i], l[i+1:]...)
}

// swap puts two things of a list in each other's place.
func swap[T any](l []T, next func(n int) int) {
	if len(l) > 0 {
		i, j := next(len(l)), next(len(l))
		l[i], l[j] = l[j], l[i]
	}
}

// spoil changes a module a little, so that it may be wrong.
func spoil(m *api.Module, next func(n int) int) {
	switch next(14) {
	case 0:
		m.Parts = cut(m.Parts, next)
	case 1:
		m.Schedules = cut(m.Schedules, next)
	case 2:
		m.Pairs = cut(m.Pairs, next)
	case 3:
		m.Acts = cut(m.Acts, next)
	case 4:
		swap(m.Parts, next)
	case 5:
		swap(m.Schedules, next)
	case 6:
		swap(m.Pairs, next)
	case 7:
		swap(m.Acts, next)
	case 8:
		for i := range m.Parts {
			m.Parts[next(i+1)].Name = []string{"A", "NAV", "P_3", "", "9", strings.Repeat("Z", 16+next(2))}[next(6)]
		}
	default:
		l := places(m)
		*l[next(len(l))] = []int{0, 1, 2, 3, 4, 6, 7, 9, 10, 12, -1, 255, 256, 250, 5}[next(15)]
	}
}

func TestModel(t *testing.T) { // P16.1, P16.2: modules that nearly are valid, and their bytes
	next := ruled(23)
	told := map[string]int{}
	for range 8000 {
		m := copyOf([]api.Module{usual(), filled(3, 3)}[next(8)/7])
		for range next(5) {
			spoil(&m, next)
		}
		given, want := copyOf(m), text(m)
		e := Module(m)
		told[want]++
		if fault.Text(e) != want || (e == nil) != (want == "") || !image.Same(m, given) {
			t.Fatalf("%v: %q, not %q", m, fault.Text(e), want)
		}
		s, no := image.Encode(m)
		if no != nil {
			if e == nil {
				t.Fatal("a valid module has bytes", m)
			}
			continue
		}
		got, f := Load(s)
		if fault.Text(f) != want || e == nil && !image.Same(got, m) || e != nil && !zero(got) {
			t.Fatalf("%v: %q, not %q", m, fault.Text(f), want)
		}
	}
	if told[""] < 500 || len(told) < 60 {
		t.Error(told[""], len(told))
	}
}

func TestBytes(t *testing.T) { // P16.1, P16.2: sealed bytes that nearly are a module
	next := ruled(31)
	loaded, seen := 0, map[api.Errno]int{}
	base := encoded(t, usual())
	for range 15000 {
		b := []byte(base)
		for range 1 + next(2) {
			b[8+next(len(b)-12)] = byte(next(12))
		}
		s := image.Seal(string(b))
		m, e := Load(s)
		seen[Class(e)]++
		d, f := image.Decode(s)
		if f == nil {
			f = Module(d)
		}
		if fault.Text(e) != fault.Text(f) || (e == nil) != (f == nil) {
			t.Fatalf("%q: %v, not %v", s, fault.Text(e), fault.Text(f))
		}
		if e != nil {
			if !zero(m) {
				t.Fatal(m)
			}
			continue
		}
		loaded++
		if text(m) != "" || Module(m) != nil || encoded(t, m) != s {
			t.Fatalf("%q: %v", s, m)
		}
	}
	if loaded < 500 || len(seen) < 10 {
		t.Error(loaded, seen)
	}
}
