package octet

import (
	"bytes"
	"encoding/binary"
	"math"
	"testing"
)

// sizes are all that a number can have.
var sizes = []int{1, 2, 4, 8}

// strange are sizes that no number has.
var strange = []int{math.MinInt, -8, -1, 0, 3, 5, 6, 7, 9, 16, 64, 256, math.MaxInt}

// greatest is the greatest number of n bytes.
func greatest(n int) uint64 { return math.MaxUint64 >> (64 - 8*n) }

// numbers are the edges of all sizes, each bit alone, and some between.
func numbers() []uint64 {
	l := []uint64{0, 0x0102030405060708, 0xF0E1D2C3B4A59687, 0x8000000080008080, 1000000007}
	for i := range 64 {
		l = append(l, 1<<i, 1<<i-1, ^uint64(0)<<i)
	}
	return l
}

func TestPutExample(t *testing.T) { // P1.1
	if b, ok := Put(nil, 258, 2); !ok || !bytes.Equal(b, []byte{1, 2}) {
		t.Error(b, ok)
	}
}

func TestPut(t *testing.T) { // P1.1
	for _, n := range sizes {
		for _, v := range numbers() {
			for _, front := range [][]byte{nil, {}, {7}, {1, 2, 3}} {
				want, fits := front, v <= greatest(n)
				if fits {
					all := binary.BigEndian.AppendUint64(nil, v)
					want = append(bytes.Clone(front), all[8-n:]...)
				}
				if b, ok := Put(front, v, n); ok != fits || !bytes.Equal(b, want) {
					t.Error(front, v, n, b, ok)
				}
			}
		}
	}
}

func TestPutStrangeSize(t *testing.T) { // P1.1
	for _, n := range strange {
		for _, v := range []uint64{0, 1, math.MaxUint64} {
			if b, ok := Put([]byte{5, 6}, v, n); ok || !bytes.Equal(b, []byte{5, 6}) {
				t.Error(n, v, b, ok)
			}
			if b, ok := Put(nil, v, n); ok || len(b) != 0 {
				t.Error(n, v, b, ok)
			}
		}
	}
}

func TestPutIsNewMemory(t *testing.T) { // P1.1
	for _, v := range []uint64{7, 256} { // the second one doesn't fit
		room := []byte{1, 2, 3, 9, 9, 9, 9, 9, 9, 9, 9, 9}
		front := room[:3]
		a, _ := Put(front, v, 1)
		b, _ := Put(front, v, 1)
		for i := range a[:cap(a)] {
			a[:cap(a)][i] = 77
		}
		if !bytes.Equal(room, []byte{1, 2, 3, 9, 9, 9, 9, 9, 9, 9, 9, 9}) {
			t.Error(v, room)
		}
		if !bytes.Equal(b[:3], []byte{1, 2, 3}) {
			t.Error(v, b)
		}
	}
}

func TestGet(t *testing.T) { // P1.1
	s := "\x80\x00\xff\x01\x02\x03\x04\x7f\xfe\x10"
	padded := make([]byte, 8)
	for _, n := range sizes {
		for at := -9; at <= len(s)+9; at++ {
			want, there := uint64(0), at >= 0 && at+n <= len(s)
			if there {
				clear(padded)
				copy(padded[8-n:], s[at:])
				want = binary.BigEndian.Uint64(padded)
			}
			if v, ok := Get(s, at, n); v != want || ok != there {
				t.Error(at, n, v, ok)
			}
		}
	}
}

func TestGetOfNothing(t *testing.T) { // P1.1
	far := []int{math.MinInt, math.MinInt + 1, -1, math.MaxInt - 8, math.MaxInt - 1, math.MaxInt}
	for _, n := range sizes {
		for _, at := range far {
			if v, ok := Get("abcdefgh", at, n); v != 0 || ok {
				t.Error(at, n, v, ok)
			}
		}
		if v, ok := Get("", 0, n); v != 0 || ok {
			t.Error(n, v, ok)
		}
	}
	for _, n := range strange {
		for _, at := range append(far, 0, 1, 8) {
			if v, ok := Get("abcdefgh", at, n); v != 0 || ok {
				t.Error(at, n, v, ok)
			}
		}
	}
}

func TestFits(t *testing.T) { // P1.1
	for _, v := range numbers() {
		for _, n := range sizes {
			if Fits(v, n) != (v <= greatest(n)) {
				t.Error(v, n)
			}
		}
		for _, n := range strange {
			if Fits(v, n) {
				t.Error(v, n)
			}
		}
	}
}

func TestBitAndCount(t *testing.T) { // P1.1
	for _, v := range numbers() {
		ones := 0
		for i, rest := 0, v; i < 64; i, rest = i+1, rest/2 {
			ones += int(rest % 2)
			if Bit(v, i) != (rest%2 == 1) {
				t.Error(v, i)
			}
		}
		if Count(v) != ones {
			t.Error(v, Count(v))
		}
		for _, i := range []int{math.MinInt, -64, -1, 64, 65, 128, math.MaxInt} {
			if Bit(v, i) {
				t.Error(v, i)
			}
		}
	}
}

func TestSigned(t *testing.T) { // P1.1
	for _, v := range numbers() {
		want := map[int]int64{1: int64(int8(v)), 2: int64(int16(v)), 4: int64(int32(v)), 8: int64(v)}
		for _, n := range sizes {
			if Signed(v, n) != want[n] {
				t.Error(v, n, Signed(v, n))
			}
		}
		for _, n := range strange {
			if Signed(v, n) != 0 {
				t.Error(v, n, Signed(v, n))
			}
		}
	}
	if Signed(0x80, 1) != -128 || Signed(0x7f, 1) != 127 || Signed(0xABFF, 1) != -1 || Signed(1<<63, 8) != math.MinInt64 {
		t.Error("edges")
	}
}

func TestWhatIsPutIsGot(t *testing.T) { // P1.2
	var b []byte
	type place struct {
		at, n int
		v     uint64
	}
	var l []place
	for _, n := range sizes {
		for _, v := range numbers() {
			at := len(b)
			next, ok := Put(b, v, n)
			if ok != Fits(v, n) {
				t.Error(v, n, ok)
			}
			if b = next; ok {
				l = append(l, place{at, n, v})
			}
		}
	}
	for _, p := range l {
		if v, ok := Get(string(b), p.at, p.n); !ok || v != p.v {
			t.Error(p, v, ok)
		}
	}
	last := l[len(l)-1]
	if len(b) != last.at+last.n {
		t.Error(len(b), last)
	}
}
