// Package octet is layer 1: see shared/doc/01-octet.md.
package octet

// width is how many bits a number of n bytes has; 0, if there is no such size.
func width(n int) int {
	bits := 0
	switch n {
	case 8:
		bits += 32
		fallthrough
	case 4:
		bits += 16
		fallthrough
	case 2:
		bits += 8
		fallthrough
	case 1:
		bits += 8
	}
	return bits
}

// Fits tells whether a number has so many bytes at most.
func Fits(v uint64, n int) bool {
	w := width(n)
	return w > 0 && v>>w == 0
}

// Put lays a number behind bytes.
func Put(b []byte, v uint64, n int) ([]byte, bool) {
	// A copy even where nothing is put: b's spare room isn't this call's to fill.
	out := make([]byte, len(b), len(b)+8)
	copy(out, b)
	if !Fits(v, n) {
		return out, false
	}
	for shift := width(n) - 8; shift >= 0; shift -= 8 {
		out = append(out, byte(v>>shift))
	}
	return out, true
}

// Get is a number out of bytes.
func Get(s string, at, n int) (uint64, bool) {
	// at is held against a difference: at+n could go round.
	if width(n) == 0 || at < 0 || at > len(s)-n {
		return 0, false
	}
	var v uint64
	for i := range n {
		v = v<<8 | uint64(s[at+i])
	}
	return v, true
}

// Bit is one of a number.
func Bit(v uint64, i int) bool {
	return i >= 0 && i < 64 && v>>i&1 == 1
}

// Count is how many bits are 1.
func Count(v uint64) int {
	n := 0
	for ; v != 0; v &= v - 1 {
		n++
	}
	return n
}

// Signed is the lowest bytes as a number with a sign.
func Signed(v uint64, n int) int64 {
	w := width(n)
	if w == 0 {
		return 0
	}
	// The highest bit that counts becomes the sign, and comes back down as one.
	return int64(v<<(64-w)) >> (64 - w)
}
