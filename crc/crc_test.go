package crc

import (
	"hash/crc32"
	"math"
	"strings"
	"testing"
)

// byWords is a text's sum bit by bit, as the document has it.
func byWords(s string) uint32 {
	v := uint32(0xFFFFFFFF)
	for i := range len(s) {
		v ^= uint32(s[i])
		for range 8 {
			fell := v & 1
			if v >>= 1; fell == 1 {
				v ^= 0xEDB88320
			}
		}
	}
	return ^v
}

// texts are of no bytes, of each byte alone, and longer ones.
func texts() []string {
	l := []string{"", "123456789", "The quick brown fox jumps over the lazy dog", strings.Repeat("\x00", 40), strings.Repeat("\xff", 300), "é\u65e5 CWM1"}
	var all strings.Builder
	for i := range 256 {
		l = append(l, string([]byte{byte(i)}))
		all.WriteByte(byte(i))
	}
	return append(l, all.String(), strings.Repeat(all.String(), 40))
}

func TestSumExamples(t *testing.T) { // P2.1
	known := map[string]uint32{
		"":          0,
		"123456789": 0xCBF43926,
		"a":         0xE8B7BE43,
		"\x00":      0xD202EF8D,
		"The quick brown fox jumps over the lazy dog": 0x414FA339,
	}
	for s, want := range known {
		if Sum(s) != want {
			t.Errorf("%q: %x", s, Sum(s))
		}
	}
}

func TestSum(t *testing.T) { // P2.1
	for _, s := range texts() {
		if Sum(s) != byWords(s) || Sum(s) != crc32.ChecksumIEEE([]byte(s)) {
			t.Errorf("%q: %x", s, Sum(s))
		}
	}
}

func TestHash(t *testing.T) { // P2.1
	h := New()
	if h.Sum() != 0 || h.Len() != 0 {
		t.Error(h.Sum(), h.Len())
	}
	whole := ""
	for _, s := range texts() {
		h.Write(s)
		whole += s
		for range 2 { // to ask changes nothing
			if h.Sum() != byWords(whole) || h.Len() != len(whole) {
				t.Errorf("%q: %x %d", s, h.Sum(), h.Len())
			}
		}
		before, n := h.Sum(), h.Len()
		h.Write("")
		if h.Sum() != before || h.Len() != n {
			t.Errorf("%q: %x %d", s, h.Sum(), h.Len())
		}
	}
}

func TestHashesAreApart(t *testing.T) { // P2.1
	a, b := New(), New()
	a.Write("1234")
	b.Write("abc")
	Sum("between")
	a.Write("56789")
	if a.Sum() != 0xCBF43926 || a.Len() != 9 || b.Sum() != byWords("abc") || b.Len() != 3 {
		t.Errorf("%x %d, %x %d", a.Sum(), a.Len(), b.Sum(), b.Len())
	}
	if c := New(); c.Sum() != 0 || c.Len() != 0 {
		t.Error(c.Sum(), c.Len())
	}
}

func TestCuts(t *testing.T) { // P2.2
	for _, s := range []string{"123456789", "\x00\x00\x00\x01\xff\xfe\x80", "The quick brown fox"} {
		for i := range len(s) + 1 {
			for j := i; j <= len(s); j++ {
				h := New()
				h.Write(s[:i])
				h.Write(s[i:j])
				h.Write(s[j:])
				if h.Sum() != byWords(s) || h.Len() != len(s) {
					t.Errorf("%q at %d, %d: %x", s, i, j, h.Sum())
				}
			}
		}
		h := New()
		for i := range len(s) {
			h.Write(s[i : i+1])
		}
		if h.Sum() != Sum(s) || h.Len() != len(s) {
			t.Errorf("%q byte by byte: %x", s, h.Sum())
		}
	}
}

func TestJoin(t *testing.T) { // P2.1, P2.2
	for _, s := range texts() {
		for i := 0; i <= len(s); i += 1 + len(s)/50 {
			if v := Join(Sum(s[:i]), Sum(s[i:]), len(s)-i); v != byWords(s) {
				t.Errorf("%q at %d: %x", s, i, v)
			}
		}
	}
}

func TestJoinNothing(t *testing.T) { // P2.1
	for _, a := range []uint32{0, 1, 7, 0x80000000, 0xCBF43926, math.MaxUint32} {
		for _, n := range []int{0, -1, -3, math.MinInt} {
			if v := Join(a, 0, n); v != a {
				t.Errorf("%x, %d: %x", a, n, v)
			}
		}
	}
	if v := Join(0, Sum("123456789"), 9); v != 0xCBF43926 {
		t.Errorf("%x", v)
	}
}

func TestJoinLong(t *testing.T) { // P2.1: texts longer than can be laid out are sums of their halves
	zeros := Sum("\x00")
	front := Sum("123456789")
	byBits, sum := front, uint32(0)
	for i := range 63 {
		n := 1 << i
		if n <= 1<<20 && zeros != Sum(strings.Repeat("\x00", n)) {
			t.Errorf("%d: %x", n, zeros)
		}
		byBits = Join(byBits, zeros, n)
		sum = Join(sum, zeros, n)
		if v := Join(front, sum, 2*(n-1)+1); v != byBits {
			t.Errorf("%d: %x, not %x", n, v, byBits)
		}
		if i < 62 {
			zeros = Join(zeros, zeros, n)
		}
	}
}
