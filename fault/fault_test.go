package fault

import (
	"errors"
	"fmt"
	"math"
	"os"
	"slices"
	"strings"
	"testing"

	"countwheel/api"
)

// known are the classes' names, as the document's table has them.
var known = map[api.Errno]string{
	1: "argument", 2: "short", 3: "magic", 4: "length", 5: "sum", 6: "form",
	7: "name", 8: "many", 9: "order", 10: "reference", 11: "window", 12: "overlap",
	13: "period", 14: "budget", 15: "pair", 16: "halt", 17: "state", 18: "range",
}

// classless are numbers that are no class.
var classless = []api.Errno{math.MinInt, math.MinInt32, -18, -1, api.OK, 19, 20, 37, 256, 257, math.MaxInt32, math.MaxInt}

// numbers are sections and places, which may be any.
var numbers = []int{math.MinInt, -1, 0, 1, 9, 10, 17, 1 << 20, math.MaxInt}

// sample is an error that is wrapped, with what it is to say.
type sample struct {
	e     error
	fault api.Fault
	text  string
	depth int
}

// samples are errors of all classes with no wraps, and with each order of up to three.
func samples() []sample {
	var l []sample
	for k := api.ErrArg; k <= api.ErrRange; k++ {
		l = append(l, sample{New(k), api.Fault{Error: k}, known[k], 0})
	}
	layer := l
	for depth := 1; depth <= 3; depth++ {
		var next []sample
		for i, s := range layer {
			n := numbers[i%len(numbers)]
			in, at := s.fault, s.fault
			in.Section, at.At = n, n
			next = append(next,
				sample{In(n, s.e), in, fmt.Sprintf("section %d: %s", n, s.text), depth},
				sample{At(n, s.e), at, fmt.Sprintf("at %d: %s", n, s.text), depth})
		}
		l = append(l, next...)
		layer = next
	}
	return l
}

func TestExample(t *testing.T) { // P3.1
	e := In(3, At(17, New(api.ErrLap)))
	if Text(e) != "section 3: at 17: overlap" {
		t.Error(Text(e))
	}
}

func TestNames(t *testing.T) { // P3.1
	for k := api.Errno(-40); k <= 40; k++ {
		if Name(k) != known[k] {
			t.Error(k, Name(k))
		}
	}
	for _, k := range classless {
		if Name(k) != "" {
			t.Error(k, Name(k))
		}
	}
}

func TestNamed(t *testing.T) { // P3.1
	for want, name := range known {
		if k, ok := Named(name); k != want || !ok {
			t.Error(name, k, ok)
		}
	}
	for _, s := range []string{"", " ", "ok", "OK", "none", "Overlap", "OVERLAP", "overlap ", " overlap", "overla", "lap", "sum\x00", "at 1: sum", "12", "\xff"} {
		if k, ok := Named(s); k != api.OK || ok {
			t.Errorf("%q: %d %v", s, k, ok)
		}
	}
}

func TestNewOfNoClass(t *testing.T) { // P3.1
	for _, k := range classless {
		if e := New(k); e != nil {
			t.Error(k, e)
		}
	}
}

func TestNil(t *testing.T) { // P3.1
	for _, n := range numbers {
		if e := In(n, nil); e != nil {
			t.Error(n, e)
		}
		if e := At(n, nil); e != nil {
			t.Error(n, e)
		}
		if e := At(n, In(n, New(api.OK))); e != nil {
			t.Error(n, e)
		}
	}
	if Of(nil) != (api.Fault{}) || Text(nil) != "" || Depth(nil) != 0 {
		t.Error(Of(nil), Text(nil), Depth(nil))
	}
}

func TestWhatItSays(t *testing.T) { // P3.1
	for _, s := range samples() {
		for range 2 { // to ask changes nothing
			if Of(s.e) != s.fault {
				t.Errorf("%s: %v", s.text, Of(s.e))
			}
			if Text(s.e) != s.text || s.e.Error() != s.text {
				t.Errorf("%s: %q, %q", s.text, Text(s.e), s.e.Error())
			}
			if Depth(s.e) != s.depth {
				t.Errorf("%s: %d", s.text, Depth(s.e))
			}
		}
	}
}

func TestOutermostCounts(t *testing.T) { // P3.1
	for _, n := range numbers {
		if f := Of(In(n, In(5, At(6, New(api.ErrSum))))); f != (api.Fault{Error: api.ErrSum, Section: n, At: 6}) {
			t.Error(n, f)
		}
		if f := Of(At(n, In(5, At(6, New(api.ErrSum))))); f != (api.Fault{Error: api.ErrSum, Section: 5, At: n}) {
			t.Error(n, f)
		}
	}
	e := In(3, At(1, At(2, In(7, New(api.ErrLap)))))
	if Of(e) != (api.Fault{Error: api.ErrLap, Section: 3, At: 1}) || Text(e) != "section 3: at 1: at 2: section 7: overlap" || Depth(e) != 4 {
		t.Error(Of(e), Text(e), Depth(e))
	}
}

func TestIs(t *testing.T) { // P3.1
	for _, s := range samples() {
		for k := range known {
			if Is(s.e, k) != (k == s.fault.Error) {
				t.Error(s.text, k)
			}
		}
		for _, k := range classless {
			if Is(s.e, k) {
				t.Error(s.text, k)
			}
		}
	}
	for k := api.Errno(-1); k <= 19; k++ {
		if Is(nil, k) {
			t.Error(k)
		}
	}
}

func TestFirst(t *testing.T) { // P3.1
	if e := First(); e != nil {
		t.Error(e)
	}
	if e := First([]error{}...); e != nil {
		t.Error(e)
	}
	if e := First(nil, nil, New(api.OK), In(1, nil)); e != nil {
		t.Error(e)
	}
	a, b := At(2, New(api.ErrSum)), In(1, New(api.ErrLap))
	for _, l := range [][]error{{a}, {a, b}, {nil, a}, {nil, nil, a, nil, b}, {a, nil}, {a, a, b}} {
		before := slices.Clone(l)
		if e := First(l...); Text(e) != "at 2: sum" {
			t.Error(Text(e))
		}
		for i := range l {
			if Text(l[i]) != Text(before[i]) {
				t.Error(i, l[i])
			}
		}
	}
	if e := First(b, a); Text(e) != "section 1: overlap" {
		t.Error(Text(e))
	}
}

func TestWrapsStayApart(t *testing.T) { // P3.1
	inner := At(4, New(api.ErrForm))
	one, two := In(1, inner), In(2, inner)
	if Text(inner) != "at 4: form" || Text(one) != "section 1: at 4: form" || Text(two) != "section 2: at 4: form" {
		t.Error(Text(inner), Text(one), Text(two))
	}
	if Depth(inner) != 1 || Depth(one) != 2 || Of(two).Section != 2 || Of(inner).Section != 0 {
		t.Error(Depth(inner), Depth(one), Of(two), Of(inner))
	}
}

func TestDeep(t *testing.T) { // P3.1: as deep as the document's limits let it be
	const depth = 1 << 16
	e := New(api.ErrHalt)
	for i := 1; i < depth; i++ {
		e = At(i, e)
	}
	e = In(8, e)
	if Depth(e) != depth || Of(e) != (api.Fault{Error: api.ErrHalt, Section: 8, At: depth - 1}) || !Is(e, api.ErrHalt) || Is(e, api.ErrState) {
		t.Error(Depth(e), Of(e))
	}
	s := Text(e)
	if !strings.HasPrefix(s, "section 8: at 65535: at 65534: ") || !strings.HasSuffix(s, ": at 2: at 1: halt") || strings.Count(s, ": ") != depth {
		t.Error(len(s), s[:40], s[len(s)-40:])
	}
}

func TestGoesThroughGo(t *testing.T) { // P3.1: a class is an error, and a wrap unwraps
	inner := At(17, New(api.ErrLap))
	e := In(3, inner)
	if !errors.Is(e, inner) || !errors.Is(e, New(api.ErrLap)) || errors.Is(e, New(api.ErrSum)) || errors.Is(inner, e) {
		t.Error("is")
	}
	if Text(errors.Unwrap(e)) != "at 17: overlap" || errors.Unwrap(New(api.ErrLap)) != nil {
		t.Error(errors.Unwrap(e))
	}
}

func TestOtherKinds(t *testing.T) { // errors of other kinds are looked through
	e := In(3, At(17, New(api.ErrLap)))
	want := api.Fault{Error: api.ErrLap, Section: 3, At: 17}
	for _, x := range []error{
		fmt.Errorf("more: %w", e),
		fmt.Errorf("more: %w", fmt.Errorf("and more: %w", e)),
		errors.Join(e),
		errors.Join(errors.New("more"), e),
		errors.Join(e, New(api.ErrSum)),
		In(3, fmt.Errorf("between: %w", At(17, New(api.ErrLap)))),
		In(3, errors.Join(errors.New("more"), fmt.Errorf("between: %w", At(17, New(api.ErrLap))))),
	} {
		if Of(x) != want || Depth(x) != 2 || Text(x) != "section 3: at 17: overlap" || !Is(x, api.ErrLap) {
			t.Errorf("%v: %v %d %q", x, Of(x), Depth(x), Text(x))
		}
	}
	// The first fault is one whole: no other one's wraps are its.
	if f := Of(errors.Join(New(api.ErrSum), e)); f != (api.Fault{Error: api.ErrSum}) {
		t.Error(f)
	}
}

// panicking is an error that can't be asked for anything.
type panicking struct{}

func (panicking) Error() string { panic("error") }
func (panicking) Unwrap() error { panic("unwrap") }
func (panicking) Is(error) bool { panic("is") }
func (panicking) As(any) bool   { panic("as") }

// uncomparable is an error that can't be held against another one.
type uncomparable []int

func (uncomparable) Error() string { return "uncomparable" }

func TestNoClassWithin(t *testing.T) { // an error that has no class within says ErrArg, and no call panics
	for _, x := range []error{errors.New("x"), fmt.Errorf("x: %w", os.ErrNotExist), errors.Join(errors.New("x")), (*os.PathError)(nil), panicking{}, uncomparable{1}} {
		if Of(x) != (api.Fault{Error: api.ErrArg}) || Depth(x) != 0 || Text(x) != "argument" || First(nil, x) == nil {
			t.Errorf("%T: %v %d %q", x, Of(x), Depth(x), Text(x))
		}
		w := At(4, In(2, x))
		if Of(w) != (api.Fault{Error: api.ErrArg, Section: 2, At: 4}) || Depth(w) != 2 || w.Error() != "at 4: section 2: argument" {
			t.Errorf("%T: %v %d %q", x, Of(w), Depth(w), w.Error())
		}
		for k := range known {
			if Is(x, k) || Is(w, k) {
				t.Errorf("%T: %d", x, k)
			}
		}
	}
}
