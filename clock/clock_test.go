package clock

import (
	"math"
	"math/big"
	"testing"
)

// times are the edges of 64 bits, each bit alone, and some between.
func times() []uint64 {
	l := []uint64{0, 3, 1000000007, 0x0102030405060708, math.MaxUint64 - 1, math.MaxUint64 - 2, math.MaxUint64 - 100}
	for i := range 64 {
		l = append(l, 1<<i, 1<<i-1, 1<<i+1, ^uint64(0)<<i, ^uint64(0)>>i)
	}
	return l
}

// counts are how many ticks may be asked for.
var counts = []int{math.MinInt, math.MinInt + 1, -1000, -1, 0, 1, 2, 3, 99, 100, 101, 1 << 20, 1<<31 - 1, 1 << 32, math.MaxInt - 1, math.MaxInt}

// is tells whether a clock says what one of that time does.
func is(c *Clock, now uint64) bool {
	return c.Now() == now && c.Left() == math.MaxUint64-now && c.Halted() == (now == math.MaxUint64)
}

// big64 is a number that doesn't end.
func big64(v uint64) *big.Int { return new(big.Int).SetUint64(v) }

// ended is such a number with the clock's end.
func ended(v *big.Int) uint64 {
	if !v.IsUint64() {
		return math.MaxUint64
	}
	return v.Uint64()
}

func TestExample(t *testing.T) { // P4.1
	c := New(math.MaxUint64 - 1)
	if !c.Tick() || c.Tick() {
		t.Error(c.Now())
	}
}

func TestNew(t *testing.T) { // P4.1
	for _, epoch := range times() {
		c := New(epoch)
		for range 2 { // to ask changes nothing
			if !is(c, epoch) {
				t.Error(epoch, c.Now(), c.Left(), c.Halted())
			}
		}
	}
}

func TestTick(t *testing.T) { // P4.1
	for _, epoch := range times() {
		c := New(epoch)
		now := epoch
		for range 5 {
			went := now != math.MaxUint64
			if went {
				now++
			}
			if c.Tick() != went || !is(c, now) {
				t.Error(epoch, now, c.Now())
			}
		}
	}
}

func TestRun(t *testing.T) { // P4.1
	for _, epoch := range times() {
		for _, n := range counts {
			c := New(epoch)
			want := 0
			if n > 0 {
				want = n
				if left := math.MaxUint64 - epoch; uint64(n) > left {
					want = int(left)
				}
			}
			if went := c.Run(n); went != want || !is(c, epoch+uint64(want)) {
				t.Error(epoch, n, went, c.Now())
			}
		}
	}
}

func TestRunIsTicks(t *testing.T) { // P4.1
	for _, epoch := range []uint64{0, 77, math.MaxUint64 - 40, math.MaxUint64 - 1, math.MaxUint64} {
		for n := -2; n < 80; n++ {
			a, b := New(epoch), New(epoch)
			ticks := 0
			for range max(n, 0) {
				if a.Tick() {
					ticks++
				}
			}
			if went := b.Run(n); went != ticks || a.Now() != b.Now() {
				t.Error(epoch, n, went, ticks, a.Now(), b.Now())
			}
		}
	}
}

func TestWholeWay(t *testing.T) { // P4.1: from the first time to the last one
	c := New(0)
	if c.Run(math.MaxInt) != math.MaxInt || c.Run(math.MaxInt) != math.MaxInt || c.Left() != 1 || c.Halted() {
		t.Error(c.Now())
	}
	if c.Run(math.MaxInt) != 1 || !is(c, math.MaxUint64) || c.Run(math.MaxInt) != 0 || c.Tick() || !is(c, math.MaxUint64) {
		t.Error(c.Now())
	}
}

func TestSince(t *testing.T) { // P4.1
	for _, now := range times() {
		c := New(now)
		for _, then := range times() {
			want := uint64(0)
			if now > then {
				want = now - then
			}
			if v := c.Since(then); v != want {
				t.Error(now, then, v)
			}
		}
		if c.Now() != now {
			t.Error(now, c.Now())
		}
	}
}

func TestSinceBehindCalls(t *testing.T) { // P4.1
	c := New(5)
	c.Run(10)
	c.Tick()
	if c.Since(4) != 12 || c.Since(5) != 11 || c.Since(15) != 1 || c.Since(16) != 0 || c.Since(17) != 0 || c.Since(math.MaxUint64) != 0 || c.Since(0) != 16 {
		t.Error(c.Now())
	}
}

func TestCopy(t *testing.T) { // P4.1
	for _, epoch := range []uint64{0, 9, math.MaxUint64 - 3, math.MaxUint64} {
		c := New(epoch)
		c.Tick()
		now := c.Now()
		d := c.Copy()
		if !is(d, now) {
			t.Error(epoch, d.Now())
		}
		d.Run(2)
		if !is(c, now) {
			t.Error(epoch, c.Now())
		}
		at := d.Now()
		c.Run(100)
		if d.Now() != at {
			t.Error(epoch, d.Now())
		}
	}
}

func TestSumAndProduct(t *testing.T) { // P4.1
	for _, a := range times() {
		for _, b := range times() {
			if v := Sum(a, b); v != ended(new(big.Int).Add(big64(a), big64(b))) {
				t.Error("sum", a, b, v)
			}
			if v := Product(a, b); v != ended(new(big.Int).Mul(big64(a), big64(b))) {
				t.Error("product", a, b, v)
			}
		}
	}
}

func TestSumAndProductAtTheEnd(t *testing.T) { // P4.1
	const end = math.MaxUint64
	for _, x := range [][3]uint64{{end, 0, end}, {end, 1, end}, {end - 1, 1, end}, {end - 1, 2, end}, {end - 2, 1, end - 1}, {end, end, end}} {
		if Sum(x[0], x[1]) != x[2] || Sum(x[1], x[0]) != x[2] {
			t.Error("sum", x, Sum(x[0], x[1]))
		}
	}
	for _, x := range [][3]uint64{{end, 0, 0}, {end, 1, end}, {end / 3, 3, end}, {end/3 + 1, 3, end}, {1 << 32, 1<<32 - 1, 1<<64 - 1<<32}, {1 << 32, 1 << 32, end}, {1<<32 + 1, 1<<32 - 1, end}, {end, end, end}} {
		if Product(x[0], x[1]) != x[2] || Product(x[1], x[0]) != x[2] {
			t.Error("product", x, Product(x[0], x[1]))
		}
	}
}

func TestTimeNeverFalls(t *testing.T) { // P4.2
	mixed := uint32(1)
	pick := func(n int) int { // a number below n, mixed the same way at each run
		mixed = mixed*1664525 + 1013904223
		return int(mixed>>8) % n
	}
	for _, epoch := range times() {
		c := New(epoch)
		want := big64(epoch)
		for range 200 {
			before := c.Now()
			n := pick(200) - 50
			if pick(3) == 0 { // few ways are long, or each clock would be at its end at once
				n = counts[pick(len(counts))]
			}
			ran := c.Run(n)
			went := uint64(ran)
			if c.Tick() {
				went++
			}
			want.Add(want, big64(went))
			now := c.Now()
			if ran < 0 || now < before || big64(now).Cmp(want) != 0 || !is(c, now) || c.Since(before) != went {
				t.Fatal(epoch, n, went, before, now)
			}
		}
	}
}

func TestTimeStaysAtTheEnd(t *testing.T) { // P4.2
	c := New(math.MaxUint64)
	for _, n := range counts {
		if c.Run(n) != 0 || c.Tick() || c.Copy().Tick() || !is(c, math.MaxUint64) {
			t.Error(n, c.Now())
		}
	}
}
