package status

import (
	"bytes"
	"encoding/binary"
	"fmt"
	"math"
	"math/big"
	"regexp"
	"strings"
	"testing"

	"countwheel/api"
	"countwheel/fault"
)

// most is the greatest number of four bytes.
const most = math.MaxUint32

// times are edges of what Last can be.
var times = []uint64{0, 1, 9, 10, 255, 256, 258, most, most + 1, 1 << 62, math.MaxInt64, math.MaxInt64 + 1, 0x0102030405060708, math.MaxUint64 - 1, math.MaxUint64}

// laid are ids that have bytes.
var laid = []int{0, 1, 2, 9, 10, 255, 256, 65535, 65536, 0x01020304, 1<<31 - 1, 1 << 31, most - 1, most}

// beyond are ids that have no bytes.
var beyond = []int{math.MinInt, math.MinInt + 1, -1 << 33, -most, -1 << 31, -256, -10, -1, most + 1, most + 2, 1 << 33, 1 << 62, math.MaxInt - 1, math.MaxInt}

// ids are of both kinds.
func ids() []int { return append(append([]int{}, laid...), beyond...) }

// statuses are all edges together.
func statuses(ids []int) []api.Status {
	var l []api.Status
	for _, last := range times {
		for _, current := range ids {
			for _, next := range ids {
				l = append(l, api.Status{Last: last, Current: current, Next: next})
			}
		}
	}
	return l
}

// is tells whether an error is of a class at a place, with that place as its one wrap.
func is(e error, k api.Errno, at int) bool {
	return fault.Of(e) == (api.Fault{Error: k, At: at}) && fault.Text(e) == fmt.Sprintf("at %d: %s", at, fault.Name(k))
}

func TestSize(t *testing.T) { // P23.1
	if Size != 16 {
		t.Error(Size)
	}
	var b [Size]byte // it is a constant
	if x, e := Get(string(b[:])); x != (api.Status{}) || e != nil {
		t.Error(x, e)
	}
}

func TestPutWrittenOut(t *testing.T) { // P23.1: Last, Current, Next, the highest byte first
	b, e := Put([]byte{7, 8}, api.Status{Last: 0x0102030405060708, Current: 0x090A0B0C, Next: 0xF0F1F2F3})
	if e != nil || !bytes.Equal(b, []byte{7, 8, 1, 2, 3, 4, 5, 6, 7, 8, 9, 10, 11, 12, 0xF0, 0xF1, 0xF2, 0xF3}) {
		t.Error(b, e)
	}
	if b, e := Put(nil, api.Status{}); e != nil || !bytes.Equal(b, make([]byte, 16)) {
		t.Error(b, e)
	}
}

func TestPut(t *testing.T) { // P23.1, P23.2
	for _, s := range statuses(laid) {
		for _, front := range [][]byte{nil, {}, {1}, {3, 2, 1}} {
			want := binary.BigEndian.AppendUint64(bytes.Clone(front), s.Last)
			want = binary.BigEndian.AppendUint32(want, uint32(s.Current))
			want = binary.BigEndian.AppendUint32(want, uint32(s.Next))
			b, e := Put(front, s)
			if e != nil || !bytes.Equal(b, want) {
				t.Fatal(s, front, b, e)
			}
			if x, e := Get(string(b[len(front):])); x != s || e != nil {
				t.Fatal(s, x, e)
			}
		}
	}
}

func TestPutRange(t *testing.T) { // P23.1: Current is asked ahead of Next
	front := []byte{4, 5}
	for _, last := range times {
		for _, bad := range beyond {
			for _, other := range ids() {
				if b, e := Put(front, api.Status{Last: last, Current: bad, Next: other}); !is(e, api.ErrRange, 0) || !bytes.Equal(b, front) {
					t.Fatal(bad, other, b, fault.Text(e))
				}
			}
			for _, good := range laid {
				if b, e := Put(front, api.Status{Last: last, Current: good, Next: bad}); !is(e, api.ErrRange, 1) || !bytes.Equal(b, front) {
					t.Fatal(good, bad, b, fault.Text(e))
				}
			}
		}
	}
	for _, none := range [][]byte{nil, {}} {
		if b, e := Put(none, api.Status{Current: -1}); len(b) != 0 || !is(e, api.ErrRange, 0) {
			t.Error(b, fault.Text(e))
		}
	}
}

func TestPutIsNewMemory(t *testing.T) { // P23.1: neither the bytes nor their spare room are changed, or told
	for _, s := range []api.Status{{Last: 1, Current: 2, Next: 3}, {Current: -1}, {Next: most + 1}} {
		room := bytes.Repeat([]byte{9}, 40)
		a, _ := Put(room[:3], s)
		b, _ := Put(room[:3], s)
		for i := range a[:cap(a)] {
			a[:cap(a)][i] = 77
		}
		if !bytes.Equal(room, bytes.Repeat([]byte{9}, 40)) {
			t.Error(s, room)
		}
		if !bytes.Equal(b[:3], []byte{9, 9, 9}) || bytes.Contains(b, []byte{77}) {
			t.Error(s, b)
		}
		clear(room)
		if !bytes.Equal(b[:3], []byte{9, 9, 9}) {
			t.Error(s, b)
		}
	}
}

func TestGet(t *testing.T) { // P23.1, P23.2: any 16 bytes are a status's, and are put again
	x := uint64(5)
	for range 5000 {
		var b []byte
		for range 2 {
			x = x*6364136223846793005 + 1442695040888963407
			b = binary.BigEndian.AppendUint64(b, x^x>>29)
		}
		want := api.Status{Last: binary.BigEndian.Uint64(b), Current: int(binary.BigEndian.Uint32(b[8:])), Next: int(binary.BigEndian.Uint32(b[12:]))}
		s, e := Get(string(b))
		if s != want || e != nil {
			t.Fatal(b, s, e)
		}
		if again, e := Put(nil, s); !bytes.Equal(again, b) || e != nil {
			t.Fatal(b, again, e)
		}
	}
	if s, e := Get(strings.Repeat("\xff", 16)); s != (api.Status{Last: math.MaxUint64, Current: most, Next: most}) || e != nil {
		t.Error(s, e)
	}
}

func TestGetEachByte(t *testing.T) { // P23.1: each byte has its place
	for i := range Size {
		b := make([]byte, Size)
		b[i] = 0x81
		want := api.Status{}
		switch {
		case i < 8:
			want.Last = 0x81 << (8 * (7 - i))
		case i < 12:
			want.Current = 0x81 << (8 * (11 - i))
		default:
			want.Next = 0x81 << (8 * (15 - i))
		}
		if s, e := Get(string(b)); s != want || e != nil {
			t.Error(i, s, e)
		}
	}
}

func TestGetLength(t *testing.T) { // P23.1: fewer bytes, and more
	for _, fill := range []string{"\x00", "\x01", "\xff", "l"} {
		for n := range 70 {
			s, e := Get(strings.Repeat(fill, n))
			switch {
			case n < 16 && !is(e, api.ErrShort, n), n == 16 && e != nil, n > 16 && !is(e, api.ErrLength, 16):
				t.Error(n, fault.Text(e))
			case n != 16 && s != (api.Status{}):
				t.Error(n, s)
			}
		}
		if s, e := Get(strings.Repeat(fill, 1<<20)); s != (api.Status{}) || !is(e, api.ErrLength, 16) {
			t.Error(s, fault.Text(e))
		}
	}
}

func TestTextWrittenOut(t *testing.T) { // P23.1
	for _, x := range []struct {
		s    api.Status
		want string
	}{
		{api.Status{}, "last 0 current 0 next 0"},
		{api.Status{Last: 258, Current: 1, Next: 2}, "last 258 current 1 next 2"},
		{api.Status{Last: 10, Current: 20, Next: 30}, "last 10 current 20 next 30"},
		{api.Status{Current: -1, Next: -20}, "last 0 current -1 next -20"},
		{api.Status{Last: math.MaxUint64, Current: math.MinInt64, Next: math.MaxInt64}, "last 18446744073709551615 current -9223372036854775808 next 9223372036854775807"},
		{api.Status{Last: 1 << 63, Current: math.MaxInt64, Next: math.MinInt64}, "last 9223372036854775808 current 9223372036854775807 next -9223372036854775808"},
	} {
		if s := Text(x.s); s != x.want {
			t.Errorf("%v: %q", x.s, s)
		}
		if s, e := Parse(x.want); s != x.s || e != nil {
			t.Errorf("%q: %v %v", x.want, s, e)
		}
	}
}

func TestText(t *testing.T) { // P23.1, P23.2
	for _, s := range statuses(ids()) {
		text := Text(s)
		if want := fmt.Sprint("last ", s.Last, " current ", s.Current, " next ", s.Next); text != want {
			t.Fatalf("%v: %q", s, text)
		}
		if x, e := Parse(text); x != s || e != nil {
			t.Fatalf("%q: %v %v", text, x, e)
		}
	}
}

// form is how a status's text looks, but for how great its numbers may be.
var form = regexp.MustCompile(`\Alast (0|[1-9][0-9]*) current (0|-?[1-9][0-9]*) next (0|-?[1-9][0-9]*)\z`)

// within tells whether the digits are a number from the one to the other.
func within(digits, least, greatest string) bool {
	var n [3]*big.Int
	for i, s := range []string{digits, least, greatest} {
		n[i], _ = new(big.Int).SetString(s, 10)
	}
	return n[0].Cmp(n[1]) >= 0 && n[0].Cmp(n[2]) <= 0
}

// isText tells whether a text is a status's, found another way.
func isText(s string) bool {
	l := form.FindStringSubmatch(s)
	if l == nil || !within(l[1], "0", "18446744073709551615") {
		return false
	}
	return within(l[2], "-9223372036854775808", "9223372036854775807") && within(l[3], "-9223372036854775808", "9223372036854775807")
}

// parsed holds what Parse tells of a text against what it is.
func parsed(t *testing.T, s string) bool {
	t.Helper()
	x, e := Parse(s)
	if isText(s) {
		if e != nil || Text(x) != s {
			t.Errorf("%q: %v %v", s, x, fault.Text(e))
		}
		return true
	}
	if x != (api.Status{}) || fault.Of(e) != (api.Fault{Error: api.ErrForm}) || fault.Text(e) != "form" {
		t.Errorf("%q: %v %v", s, x, fault.Text(e))
	}
	return false
}

func TestParseWrong(t *testing.T) { // P23.1, P23.2: of any other text there is no status
	for _, s := range []string{
		"", " ", "last", "last ", "last 0", "last 0 current 0", "last 0 current 0 next", "last 0 current 0 next ",
		"last  current  next ", "last 0 current 0 next 0 ", " last 0 current 0 next 0", "last 0 current 0 next 0 0",
		"last 0 current 0 next 0 next 0", "last  0 current 0 next 0", "last 0  current 0 next 0", "last 0 current 0 next  0",
		"last\t0 current 0 next 0", "last 0 current 0 next 0\n", "last 0 current 0 next 0\x00", "last\u00a00 current 0 next 0",
		"Last 0 current 0 next 0", "last 0 Current 0 next 0", "last 0 current 0 NEXT 0", "current 0 last 0 next 0", "last 0 next 0 current 0",
		"last 00 current 0 next 0", "last 01 current 0 next 0", "last 1 current 00 next 0", "last 1 current 0 next 007",
		"last -0 current 0 next 0", "last 0 current -0 next 0", "last 0 current 0 next -0", "last -1 current 0 next 0",
		"last +1 current 0 next 0", "last 1 current +1 next 0", "last 1 current 0 next +1", "last 1 current -01 next 0", "last 1 current 0 next --1", "last 1 current 0 next -",
		"last 0x1 current 0 next 0", "last 1_0 current 0 next 0", "last 1 current 1_0 next 0", "last 1e1 current 0 next 0", "last 1.0 current 0 next 0", "last 1 current 0 next 0b1",
		"last 18446744073709551616 current 0 next 0", "last 99999999999999999999999 current 0 next 0",
		"last 0 current 9223372036854775808 next 0", "last 0 current -9223372036854775809 next 0", "last 0 current 18446744073709551616 next 0",
		"last 0 current 0 next 9223372036854775808", "last 0 current 0 next -9223372036854775809",
		"last a current 0 next 0", "last 0 current a next 0", "last 0 current 0 next a", "last \u0661 current 0 next 0", "last \xff current 0 next 0",
		"last 0 current 0 next " + strings.Repeat("0", 1<<20), "last " + strings.Repeat("9", 1<<20) + " current 0 next 0",
		strings.Repeat(" ", 1<<20), strings.Repeat("last 0 current 0 next 0 ", 1<<14), "last 0 current 0 next 0" + strings.Repeat(" ", 1<<20),
	} {
		if parsed(t, s) {
			t.Errorf("%.80q", s)
		}
	}
}

func TestParseNearly(t *testing.T) { // P23.1, P23.2: texts of which a byte was left out, put in, or made another one
	right := 0
	for _, base := range []string{
		"last 0 current 0 next 0", "last 258 current 1 next 2", "last 10 current -5 next 30",
		"last 18446744073709551615 current -9223372036854775808 next 9223372036854775807",
	} {
		if !parsed(t, base) {
			t.Error(base)
		}
		for i := range len(base) + 1 {
			parsed(t, base[:i])
			parsed(t, base[i:])
			if i < len(base) && parsed(t, base[:i]+base[i+1:]) {
				right++
			}
			for c := range 256 {
				in := string([]byte{byte(c)})
				if parsed(t, base[:i]+in+base[i:]) {
					right++
				}
				if i < len(base) && parsed(t, base[:i]+in+base[i+1:]) {
					right++
				}
			}
		}
	}
	if right < 100 {
		t.Error(right)
	}
}

func TestPending(t *testing.T) { // P23.1: whatever Last is
	for _, s := range statuses(ids()) {
		if Pending(s) == (s.Current == s.Next) {
			t.Fatal(s)
		}
	}
}
