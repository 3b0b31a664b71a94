package name

import (
	"bytes"
	"math"
	"regexp"
	"slices"
	"strings"
	"testing"

	"countwheel/api"
	"countwheel/reader"
)

// form is what a name is, told another way.
var form = regexp.MustCompile(`\A[A-Z][A-Z0-9_]{0,15}\z`)

// names are some, of all lengths.
var names = []string{
	"A", "Z", "M", "AA", "A0", "A9", "A_", "AZ", "Z_", "NAV", "NAV_1", "P0", "P12", "B___", "X0123456789",
	"ABCDEFGHIJKLMNO", "ABCDEFGHIJKLMNOP", "QRSTUVWXYZ_01234", "Z999999999999999", "A_______________", "ZZZZZZZZZZZZZZZZ",
}

// others are texts that are no names.
var others = []string{
	"", " ", "_", "_A", "0", "9A", "1NAV", "a", "nav", "Nav", "NAv", "A-B", "A B", " A", "A ", "A\n", "A\x00", "\x00A", "\x00",
	"A.", "A/", "A:", "A@", "A[", "A^", "A`", "A{", "@A", "[A", "\xc3\x84", "A\xc3\x84", "A\xff", "\xff", "A\xc1", "Ａ",
	"ABCDEFGHIJKLMNOPQ", "ABCDEFGHIJKLMNOp", "0BCDEFGHIJKLMNOP", "ABCDEFGHIJKLMN-P", strings.Repeat("A", 255), strings.Repeat("A", 256), strings.Repeat("A", 257), strings.Repeat("A", 1<<16+3),
}

// fresh tells whether a text is got by a reader with nothing wrong, up to a place.
func fresh(r *reader.Reader, place int) bool { return r.Err() == nil && r.Place() == place }

func TestExamples(t *testing.T) { // P6.1
	if !Right("NAV_1") || Right("1NAV") {
		t.Error(Right("NAV_1"), Right("1NAV"))
	}
}

func TestRight(t *testing.T) { // P6.1
	for _, s := range names {
		if !Right(s) {
			t.Errorf("%q", s)
		}
	}
	for _, s := range others {
		if Right(s) {
			t.Errorf("%q", s)
		}
	}
}

func TestRightByteByByte(t *testing.T) { // P6.1: each byte, alone, first, between, and last
	for c := range 256 {
		x := string([]byte{byte(c)})
		for _, s := range []string{x, x + "B", "A" + x, "A" + x + "B", "ABCDEFGHIJKLMNO" + x, x + "BCDEFGHIJKLMNOP", x + x} {
			if Right(s) != form.MatchString(s) {
				t.Errorf("%q: %v", s, Right(s))
			}
		}
	}
}

func TestRightLengths(t *testing.T) { // P6.1
	for n := range 600 {
		if s := strings.Repeat("X", n); Right(s) != (n >= 1 && n <= 16) {
			t.Error(n, Right(s))
		}
	}
}

func TestPut(t *testing.T) { // P6.1
	for _, front := range [][]byte{nil, {}, {7}, []byte("front"), bytes.Repeat([]byte{1}, 300)} {
		for _, s := range names {
			want := append(append(bytes.Clone(front), byte(len(s))), s...)
			if b, e := Put(front, s); e != api.OK || !bytes.Equal(b, want) {
				t.Errorf("%q %q: %q %d", front, s, b, e)
			}
		}
		for _, s := range others {
			if b, e := Put(front, s); e != api.ErrName || !bytes.Equal(b, front) {
				t.Errorf("%q %q: %q %d", front, s, b, e)
			}
		}
	}
}

func TestPutIsNewMemory(t *testing.T) { // P6.1
	for _, s := range []string{"NAV", "ABCDEFGHIJKLMNOP", "nav", ""} {
		for _, n := range []int{0, 3} {
			room := []byte("abc.................................")
			before := bytes.Clone(room)
			a, _ := Put(room[:n], s)
			b, _ := Put(room[:n], s)
			kept := bytes.Clone(b)
			for i := range a[:cap(a)] {
				a[:cap(a)][i] = 77
			}
			if !bytes.Equal(room, before) || !bytes.Equal(b, kept) {
				t.Errorf("%q: %q %q", s, room, b)
			}
			for i := range room {
				room[i] = 78
			}
			if !bytes.Equal(b, kept) {
				t.Errorf("%q: %q", s, b)
			}
		}
	}
}

func TestGet(t *testing.T) { // P6.1
	for _, s := range names {
		for _, front := range []string{"", "xyz"} {
			for _, back := range []string{"", "\x02AB", "\xff"} {
				r := reader.New(front + string(byte(len(s))) + s + back)
				r.Text(len(front))
				if got := Get(r); got != s || !fresh(r, len(front)+1+len(s)) {
					t.Errorf("%q %q: %q %v", front, s, got, r.Err())
				}
			}
		}
	}
}

func TestGetCounts(t *testing.T) { // P6.1: each count, with more bytes than any needs, with too few of them, with none
	long := strings.Repeat("N", 300)
	for n := range 256 {
		first := string([]byte{byte(n)})
		for _, there := range []int{300, n, n - 1, 0} {
			there = max(there, 0)
			r := reader.New("x" + first + long[:there])
			r.Enter(2)
			r.U8()
			want, f := "", api.Fault{}
			switch {
			case n < 1 || n > 16:
				f = api.Fault{Error: api.ErrName, Section: 2, At: 1}
			case there < n:
				f = api.Fault{Error: api.ErrShort, Section: 2, At: 2}
			default:
				want = long[:n]
			}
			if got := Get(r); got != want || r.Fault() != f || r.Place() != 2+len(want) {
				t.Errorf("%d %d: %q %v %d", n, there, got, r.Fault(), r.Place())
			}
		}
	}
}

func TestGetOfNoName(t *testing.T) { // P6.1: what was read stays read; the place told is the first byte's
	for _, s := range others {
		if len(s) < 1 || len(s) > 16 {
			continue
		}
		for _, front := range []string{"", "\x01A\x01B"} {
			r := reader.New(front + string(byte(len(s))) + s + "\x01C")
			r.Enter(2)
			r.Text(len(front))
			want := api.Fault{Error: api.ErrName, Section: 2, At: len(front)}
			if got := Get(r); got != "" || r.Fault() != want || r.Place() != len(front)+1+len(s) {
				t.Errorf("%q: %q %v %d", s, got, r.Fault(), r.Place())
			}
			if got := Get(r); got != "" || r.Fault() != want || r.Place() != len(front)+1+len(s) {
				t.Errorf("%q: %q %v %d", s, got, r.Fault(), r.Place())
			}
		}
	}
}

func TestGetOfNothing(t *testing.T) { // P6.1
	for _, front := range []string{"", "abc"} {
		r := reader.New(front)
		r.Enter(5)
		r.Text(len(front))
		if got := Get(r); got != "" || r.Fault() != (api.Fault{Error: api.ErrShort, Section: 5, At: len(front)}) || r.Place() != len(front) {
			t.Errorf("%q %v", got, r.Fault())
		}
	}
}

func TestGetBehindWhatIsWrong(t *testing.T) { // P6.1
	for _, s := range []string{"\x01A", "\x00", "\x11", "\x01a", "\x09A", ""} {
		r := reader.New(s)
		r.Fail(api.ErrForm, 9)
		if got := Get(r); got != "" || r.Fault() != (api.Fault{Error: api.ErrForm, At: 9}) || r.Place() != 0 {
			t.Errorf("%q: %q %v %d", s, got, r.Fault(), r.Place())
		}
	}
}

// sign is -1, 0 or 1.
func sign(n int) int { return max(-1, min(1, n)) }

func TestCompare(t *testing.T) { // P6.1
	order := []string{
		"", "\x00", "0", "9", "A", "B", "Z", "_", "a", "\x7f", "\x80", "\xff", "\x00\x00", "0\xff", "A\x00", "A1", "AA", "AB", "A_",
		"BA", "Z9", "_A", "\xffA", "AAA", "ABA", "NAV", "NAX", "\xff\xff\xff", "AAAA", "NAV_1", "NAV_2", "ABCDEFGHIJKLMNOP", "ABCDEFGHIJKLMNOQ", "AAAAAAAAAAAAAAAAA", strings.Repeat("A", 1000),
	}
	for i, a := range order {
		for j, b := range order {
			if sign(Compare(a, b)) != sign(i-j) {
				t.Errorf("%q %q: %d", a, b, Compare(a, b))
			}
		}
	}
	l := slices.Clone(order)
	slices.Reverse(l)
	if slices.SortFunc(l, Compare); !slices.Equal(l, order) {
		t.Errorf("%q", l)
	}
}

func TestMake(t *testing.T) { // P6.1
	for n, want := range map[int]string{
		0: "P0", 1: "P1", 9: "P9", 10: "P10", 12: "P12", 255: "P255", 1000: "P1000", 1<<31 - 1: "P2147483647", 1 << 32: "P4294967296",
		99999999999999: "P99999999999999", 100000000000000: "P100000000000000", 999999999999999: "P999999999999999",
		1000000000000000: "", 1000000000000001: "", 9999999999999999: "", 1 << 62: "", math.MaxInt - 1: "", math.MaxInt: "",
		-1: "P0", -5: "P0", -1000000000000000: "P0", math.MinInt + 1: "P0", math.MinInt: "P0",
	} {
		if Make(n) != want || Right(Make(n)) != (want != "") {
			t.Errorf("%d: %q", n, Make(n))
		}
	}
}

func TestMakeRises(t *testing.T) { // P6.1: numbers' names are in the numbers' order
	last := ""
	for _, n := range []int{0, 1, 2, 9, 10, 11, 99, 100, 101, 999, 1000, 123456789, 999999999999998, 999999999999999} {
		if s := Make(n); Compare(last, s) >= 0 {
			t.Errorf("%q %q", last, s)
		} else {
			last = s
		}
	}
}

func TestWhatIsPutIsGot(t *testing.T) { // P6.2: many, one behind the other, with what is no name put between
	all := slices.Clone(names)
	for n := 1; n < 1e15; n = n*3 + 1 {
		all = append(all, Make(n))
	}
	for c := range 256 {
		if s := "N" + string([]byte{byte(c)}); form.MatchString(s) {
			all = append(all, s)
		}
	}
	var b []byte
	for i, s := range all {
		var e, not api.Errno
		b, e = Put(b, s)
		b, not = Put(b, others[i%len(others)])
		if e != api.OK || not != api.ErrName {
			t.Fatalf("%q %q: %d %d", s, others[i%len(others)], e, not)
		}
	}
	r := reader.New(string(b))
	place := 0
	for _, s := range all {
		place += 1 + len(s)
		if got := Get(r); got != s || !fresh(r, place) {
			t.Fatalf("%q: %q %v", s, got, r.Err())
		}
	}
	if r.Left() != 0 {
		t.Error(r.Left())
	}
}
