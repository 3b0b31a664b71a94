package reader

import (
	"encoding/binary"
	"fmt"
	"math"
	"strings"
	"testing"

	"countwheel/api"
	"countwheel/fault"
)

// sizes are all that a number can have.
var sizes = []int{1, 2, 4, 8}

// numbers are sections and places, which may be any.
var numbers = []int{math.MinInt, -1, 0, 1, 9, 17, 1 << 20, math.MaxInt}

// classless are numbers that are no class.
var classless = []api.Errno{math.MinInt, -18, -1, api.OK, 19, 20, 256, 257, math.MaxInt}

// sample is bytes of all kinds: the lowest, the highest, a sign's edges, line ends, and some in no UTF-8.
const sample = "\x00\xff\x01\x80\x7f\xfe\x10\r\n\xc3(abcABC_\x00\x00\x00\x00\x00\x00\x00\x00\xff\xff\xff\xff\xff\xff\xff\xff\x02\x03\x04\x05"

// value is the number of a text's bytes.
func value(s string) uint64 {
	padded := make([]byte, 8)
	copy(padded[8-len(s):], s)
	return binary.BigEndian.Uint64(padded)
}

// read is the next number of n bytes.
func read(r *Reader, n int) uint64 {
	switch n {
	case 1:
		return uint64(r.U8())
	case 2:
		return uint64(r.U16())
	case 4:
		return uint64(r.U32())
	}
	return r.U64()
}

// is tells whether a reader of a text is at a place, and nothing is wrong.
func is(r *Reader, s string, place int) bool {
	return r.Err() == nil && r.Fault() == (api.Fault{}) && r.Place() == place && r.Left() == len(s)-place
}

// stuck tells whether a reader of a text stays at a place for that fault, whatever is read, and whatever else is wrong.
func stuck(r *Reader, s string, place int, f api.Fault) bool {
	for range 2 {
		if r.Fault() != f || r.Err() == nil || fault.Of(r.Err()) != f || r.Place() != place || r.Left() != len(s)-place {
			return false
		}
		for _, n := range sizes {
			if read(r, n) != 0 {
				return false
			}
		}
		for n := -1; n <= 3; n++ {
			if r.Text(n) != "" {
				return false
			}
		}
		for _, k := range []api.Errno{api.OK, api.ErrArg, api.ErrSum, api.ErrRange} {
			if r.Need(true, k, 1) || r.Need(false, k, 2) {
				return false
			}
			r.Fail(k, 3)
		}
		r.Enter(f.Section + 1)
	}
	return true
}

func TestExample(t *testing.T) { // P5.1
	r := New("\x01\x02\x03")
	r.Enter(2)
	if v := r.U16(); v != 258 {
		t.Error(v)
	}
	if v := r.U16(); v != 0 || r.Fault() != (api.Fault{Error: api.ErrShort, Section: 2, At: 2}) {
		t.Error(v, r.Fault())
	}
}

func TestNew(t *testing.T) { // P5.1
	for _, s := range []string{"", "\x00", "a", sample, strings.Repeat("x", 1<<20)} {
		r := New(s)
		for range 2 { // to ask changes nothing
			if !is(r, s, 0) {
				t.Error(len(s), r.Place(), r.Left(), r.Err())
			}
		}
	}
}

func TestNumbers(t *testing.T) { // P5.1, P5.2: each size at each place where it is all there
	for _, n := range sizes {
		for at := 0; at+n <= len(sample); at++ {
			r := New(sample)
			r.Text(at)
			if v := read(r, n); v != value(sample[at:at+n]) || !is(r, sample, at+n) {
				t.Error(n, at, v, r.Place(), r.Err())
			}
		}
	}
}

func TestNumbersAtTheEdges(t *testing.T) { // P5.1
	r := New("\xff" + "\xff\xff" + "\xff\xff\xff\xff" + "\xff\xff\xff\xff\xff\xff\xff\xff" + "\x80\x80\x00")
	if r.U8() != 255 || r.U16() != 65535 || r.U32() != math.MaxUint32 || r.U64() != math.MaxUint64 || r.U8() != 128 || r.U16() != 32768 || r.Left() != 0 || r.Err() != nil {
		t.Error(r.Place(), r.Err())
	}
}

func TestShortNumbers(t *testing.T) { // P5.1, P5.2: where a number isn't all there, whatever else could be read
	for _, n := range sizes {
		for left := range n {
			for _, front := range []int{0, 1, 5} {
				s := sample[:front] + strings.Repeat("\xff", left)
				r := New(s)
				r.Text(front)
				r.Enter(4)
				if v := read(r, n); v != 0 || !stuck(r, s, front, api.Fault{Error: api.ErrShort, Section: 4, At: front}) {
					t.Error(n, left, front, v, r.Place(), r.Fault())
				}
			}
		}
	}
}

func TestText(t *testing.T) { // P5.1, P5.2
	for at := 0; at <= len(sample); at++ {
		for n := 0; at+n <= len(sample); n++ {
			r := New(sample)
			if r.Text(at) != sample[:at] || r.Text(n) != sample[at:at+n] || !is(r, sample, at+n) {
				t.Error(at, n, r.Place(), r.Err())
			}
		}
	}
}

func TestTextOfBelowNothing(t *testing.T) { // P5.1
	for _, n := range []int{math.MinInt, math.MinInt + 1, -1 << 32, -2, -1, 0} {
		for _, at := range []int{0, 3, len(sample)} {
			r := New(sample)
			r.Text(at)
			if s := r.Text(n); s != "" || !is(r, sample, at) {
				t.Errorf("%d %d %q %d %v", n, at, s, r.Place(), r.Err())
			}
		}
	}
}

func TestShortText(t *testing.T) { // P5.1, P5.2
	for _, s := range []string{"", "a", sample} {
		for _, at := range []int{0, len(s) / 2, len(s)} {
			for _, n := range []int{len(s) - at + 1, len(s) - at + 2, 1 << 20, 1 << 32, math.MaxInt - 1, math.MaxInt} {
				r := New(s)
				r.Text(at)
				if got := r.Text(n); got != "" || !stuck(r, s, at, api.Fault{Error: api.ErrShort, At: at}) {
					t.Errorf("%q %d %d %q %v", s, at, n, got, r.Fault())
				}
			}
		}
	}
}

func TestEnter(t *testing.T) { // P5.1, P5.2
	for _, section := range numbers {
		r := New("ab")
		r.Enter(section + 1)
		r.U8()
		r.Enter(section) // the last one counts, and it moves nothing
		if !is(r, "ab", 1) {
			t.Error(section, r.Place(), r.Err())
		}
		r.U16()
		if want := (api.Fault{Error: api.ErrShort, Section: section, At: 1}); !stuck(r, "ab", 1, want) {
			t.Error(section, r.Fault())
		}
	}
}

func TestFail(t *testing.T) { // P5.1, P5.2
	for k := api.ErrArg; k <= api.ErrRange; k++ {
		for _, at := range numbers {
			for _, need := range []bool{false, true} {
				r := New("abc")
				r.Enter(at - 1)
				r.U8()
				if !need {
					r.Fail(k, at)
				} else if r.Need(false, k, at) {
					t.Error(k, at)
				}
				if !stuck(r, "abc", 1, api.Fault{Error: k, Section: at - 1, At: at}) {
					t.Error(k, at, need, r.Place(), r.Fault())
				}
			}
		}
	}
}

func TestFailOfNoClass(t *testing.T) { // P5.1
	for _, k := range classless {
		r := New("abc")
		r.U8()
		r.Fail(k, 7)
		if !is(r, "abc", 1) || !r.Need(false, k, 7) || !is(r, "abc", 1) || r.U16() != 0x6263 {
			t.Error(k, r.Place(), r.Err())
		}
	}
}

func TestNeedOfWhatIsSo(t *testing.T) { // P5.1
	for k := api.Errno(-2); k <= 20; k++ {
		r := New("abc")
		r.U8()
		if !r.Need(true, k, 7) || !is(r, "abc", 1) || r.U16() != 0x6263 {
			t.Error(k, r.Place(), r.Err())
		}
	}
}

func TestErr(t *testing.T) { // P5.1: wrapped twice, the section outermost
	for _, section := range numbers {
		for _, at := range numbers {
			r := New("")
			r.Enter(section)
			r.Fail(api.ErrLap, at)
			want := fmt.Sprintf("section %d: at %d: overlap", section, at)
			if e := r.Err(); fault.Text(e) != want || e.Error() != want || fault.Depth(e) != 2 || !fault.Is(e, api.ErrLap) {
				t.Error(section, at, e)
			}
		}
	}
}

func TestReadersStayApart(t *testing.T) { // P5.1
	a, b := New(sample), New(sample)
	a.Enter(1)
	a.U32()
	if !is(b, sample, 0) {
		t.Error(b.Place())
	}
	b.Fail(api.ErrForm, 5)
	if !is(a, sample, 4) || b.Fault() != (api.Fault{Error: api.ErrForm, At: 5}) {
		t.Error(a.Err(), b.Fault())
	}
}

// picker is numbers, mixed the same way at each run.
type picker uint32

// below is a number from 0 on, below n.
func (p *picker) below(n int) int {
	*p = *p*1664525 + 1013904223
	return int(*p>>8) % n
}

// model is what a reader is to say, kept plainly.
type model struct {
	rest           string
	place, section int
	wrong          api.Fault
}

// take is the next n bytes.
func (m *model) take(n int) string {
	if m.wrong == (api.Fault{}) && len(m.rest) < n {
		m.wrong = api.Fault{Error: api.ErrShort, Section: m.section, At: m.place}
	}
	if m.wrong != (api.Fault{}) {
		return ""
	}
	s := m.rest[:n]
	m.rest, m.place = m.rest[n:], m.place+n
	return s
}

// fail is something wrong.
func (m *model) fail(k api.Errno, at int) {
	if m.wrong == (api.Fault{}) && k >= api.ErrArg && k <= api.ErrRange {
		m.wrong = api.Fault{Error: k, Section: m.section, At: at}
	}
}

// step does one call to both, and tells how they differ.
func (m *model) step(r *Reader, p *picker) string {
	switch call := p.below(24); {
	case call < 12:
		n := sizes[p.below(4)]
		if got, want := read(r, n), value(m.take(n)); got != want {
			return fmt.Sprintf("number of %d: %d, not %d", n, got, want)
		}
	case call < 18:
		n := p.below(12) - 2
		if got, want := r.Text(n), m.take(max(n, 0)); got != want {
			return fmt.Sprintf("text of %d: %q, not %q", n, got, want)
		}
	case call < 22:
		m.section = p.below(9) - 1
		r.Enter(m.section)
	case call == 22:
		k, at := api.Errno(p.below(60)-35), p.below(99)-9
		r.Fail(k, at)
		m.fail(k, at)
	default:
		ok, k, at := p.below(3) > 0, api.Errno(p.below(60)-35), p.below(99)-9
		if !ok {
			m.fail(k, at)
		}
		if got, want := r.Need(ok, k, at), m.wrong == (api.Fault{}); got != want {
			return fmt.Sprintf("need of %v, %d, %d: %v", ok, k, at, got)
		}
	}
	if r.Fault() != m.wrong || (r.Err() == nil) != (m.wrong == api.Fault{}) || r.Place() != m.place || r.Left() != len(m.rest) {
		return fmt.Sprintf("%v at %d, %d left, not %v at %d, %d left", r.Fault(), r.Place(), r.Left(), m.wrong, m.place, len(m.rest))
	}
	return ""
}

func TestBehindAnyCalls(t *testing.T) { // P5.1, P5.2
	p := picker(1)
	ends, faults := 0, 0
	for round := range 3000 {
		var b []byte
		for range p.below(120) {
			b = append(b, byte(p.below(256)))
		}
		s := string(b)
		r, m := New(s), &model{rest: s}
		for range 40 {
			if differ := m.step(r, &p); differ != "" {
				t.Fatal(round, differ)
			}
		}
		if m.wrong.Error == api.ErrShort {
			ends++
		} else if m.wrong != (api.Fault{}) {
			faults++
		}
	}
	if ends < 100 || faults < 100 {
		t.Error("the rounds are all alike", ends, faults)
	}
}

func TestWhatIsReadIsWhatStandsThere(t *testing.T) { // P5.2: all of a text, piece by piece
	p := picker(7)
	for range 200 {
		r := New(sample)
		var b []byte
		for r.Left() > 0 {
			n := 1 + p.below(9)
			if n > r.Left() {
				n = 1
			}
			switch n {
			case 1, 2, 4, 8:
				all := binary.BigEndian.AppendUint64(nil, read(r, n))
				b = append(b, all[8-n:]...)
			default:
				b = append(b, r.Text(n)...)
			}
			if r.Place() != len(b) {
				t.Fatal(r.Place(), len(b))
			}
		}
		if string(b) != sample || r.Err() != nil {
			t.Fatalf("%q %v", b, r.Err())
		}
	}
}

func TestWhatIsWrongFirstIsKept(t *testing.T) { // P5.2
	wrongs := []func(*Reader){
		func(r *Reader) { r.U8() },
		func(r *Reader) { r.U16() },
		func(r *Reader) { r.U32() },
		func(r *Reader) { r.U64() },
		func(r *Reader) { r.Text(1) },
		func(r *Reader) { r.Fail(api.ErrSum, 11) },
		func(r *Reader) { r.Need(false, api.ErrLap, 12) },
	}
	for i, first := range wrongs {
		for j, second := range wrongs {
			r := New("ab")
			r.Text(2)
			r.Enter(3)
			first(r)
			before := r.Fault()
			text := r.Err().Error()
			r.Enter(4)
			second(r)
			if before.Error == api.OK || before.Section != 3 || r.Fault() != before || r.Err().Error() != text || !stuck(r, "ab", 2, before) {
				t.Error(i, j, before, r.Fault())
			}
		}
	}
}
