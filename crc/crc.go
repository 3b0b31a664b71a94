// Package crc is layer 2: see shared/doc/02-crc.md.
package crc

// polynomial is what is added where a bit falls out.
const polynomial = 0xEDB88320

// one is 1, perByte is x to the power 8, where a number is a polynomial whose highest bit is the factor of 1.
const (
	one     uint32 = 1 << 31
	perByte uint32 = 1 << 23
)

// Hash is a sum in the making.
type Hash struct {
	effect [256]uint32
	rest   uint32
	count  int
}

// New is a hash of no bytes.
func New() *Hash {
	return &Hash{effect: effects(), rest: ^uint32(0)}
}

// effects is what each byte does.
func effects() [256]uint32 {
	var t [256]uint32
	for i := range t {
		v := uint32(i)
		for range 8 {
			v = shifted(v)
		}
		t[i] = v
	}
	return t
}

// shifted is a number after one bit fell out: the polynomial, times x.
func shifted(v uint32) uint32 {
	if v&1 == 1 {
		return v>>1 ^ polynomial
	}
	return v >> 1
}

// Write takes bytes in.
func (h *Hash) Write(s string) {
	for i := range len(s) {
		h.rest = h.rest>>8 ^ h.effect[byte(h.rest)^s[i]]
	}
	h.count += len(s)
}

// Sum is the sum so far.
func (h *Hash) Sum() uint32 { return ^h.rest }

// Len is how many bytes there were.
func (h *Hash) Len() int { return h.count }

// Sum is a text's.
func Sum(s string) uint32 {
	h := New()
	h.Write(s)
	return h.Sum()
}

// Join is the sum of two texts, one behind the other.
func Join(a, b uint32, n int) uint32 {
	// Bytes behind multiply what is ahead of them; the ones at the beginning and the turn at the end cancel out.
	return product(a, power(n)) ^ b
}

// power is what n bytes multiply by. It squares, as n may be too great for steps.
func power(n int) uint32 {
	p := one
	for q := perByte; n > 0; n >>= 1 {
		if n&1 == 1 {
			p = product(p, q)
		}
		q = product(q, q)
	}
	return p
}

// product is two polynomials', modulo the one that is added where a bit falls out.
func product(a, b uint32) uint32 {
	var p uint32
	for bit := one; bit != 0; bit >>= 1 {
		if b&bit != 0 {
			p ^= a
		}
		a = shifted(a)
	}
	return p
}
