package image

import (
	"encoding/binary"
	"hash/crc32"
	"math"
	"reflect"
	"strings"
	"testing"

	"countwheel/api"
	"countwheel/fault"
	"countwheel/name"
)

// most is the greatest number of ticks.
const most = 1 << 20

// smallest is a module of as little as may be: 27 bytes, and those of a partition and a schedule.
func smallest() api.Module {
	return api.Module{Parts: []api.Partition{{Name: "A"}}, Schedules: []api.Schedule{{Frame: 1}}}
}

// usual is a module that has something of everything.
func usual() api.Module {
	return api.Module{
		Epoch: 0x0102030405060708,
		First: 7,
		Parts: []api.Partition{
			{Id: 1, Name: "NAV", May: true, Cells: []api.Cell{{Value: 0x11121314, Kept: true}, {Value: 5}}},
			{Id: 3, Name: "P_3"},
			{Id: 250, Name: "ABCDEFGHIJKLMNOP", Cells: []api.Cell{{}}},
		},
		Schedules: []api.Schedule{
			{Id: 2, Frame: 10, Windows: []api.Window{{Id: 3, Length: 4}, {Id: 1, Offset: 4, Length: 6}}, Needs: []api.Need{{Id: 1, Period: 10, Budget: 6}}},
			{Id: 7, Frame: 1},
			{Id: 9, Frame: most, Windows: []api.Window{{Id: 250, Offset: 1, Length: most - 1}}, Needs: []api.Need{{Id: 3, Period: 1}, {Id: 250, Period: most, Budget: most}}},
		},
		Pairs: []api.Pair{{From: 2, To: 7}, {From: 7, To: 2}, {From: 7, To: 9}},
		Acts:  []api.Act{{Schedule: 2, Partition: 1, Action: 1}, {Schedule: 2, Partition: 3, Action: 2}, {Schedule: 9, Partition: 250, Action: 1}},
	}
}

// loose is a module that names much that isn't there, and whose windows lap: bytes may say that.
func loose() api.Module {
	return api.Module{
		Epoch:     math.MaxUint64,
		First:     255,
		Parts:     []api.Partition{{Id: 0, Name: "SAME"}, {Id: 255, Name: "SAME", May: true}},
		Schedules: []api.Schedule{{Id: 254, Frame: 3, Windows: []api.Window{{Id: 9, Offset: most, Length: most}, {Id: 9}}, Needs: []api.Need{{Id: 8, Budget: most}, {Id: 8}}}},
		Pairs:     []api.Pair{{From: 0, To: 0}, {From: 255, To: 255}},
		Acts:      []api.Act{{Schedule: 100, Partition: 101, Action: 2}},
	}
}

// greatest is a module of as much as may be.
func greatest() api.Module {
	m := api.Module{Epoch: 1 << 63, First: 128}
	for i := range 32 {
		p := api.Partition{Id: 8 * i, Name: strings.Repeat(string(rune('A'+i%26)), 16), May: i%2 == 0}
		for j := range 16 {
			p.Cells = append(p.Cells, api.Cell{Value: uint32(i*j) * 0x01010107, Kept: j%3 == 0})
		}
		m.Parts = append(m.Parts, p)
	}
	for i := range 16 {
		x := api.Schedule{Id: 17 * i, Frame: most - i}
		for j := range 256 {
			x.Windows = append(x.Windows, api.Window{Id: 255 - j, Offset: (i + j) * 0x203, Length: i*256 + j})
		}
		for j := range 32 {
			x.Needs = append(x.Needs, api.Need{Id: j, Period: i * 0x1001, Budget: j * 0x1003})
		}
		m.Schedules = append(m.Schedules, x)
	}
	for i := range 240 {
		m.Pairs = append(m.Pairs, api.Pair{From: i / 16, To: i % 16})
	}
	for i := range 512 {
		m.Acts = append(m.Acts, api.Act{Schedule: i / 32, Partition: i % 32, Action: 1 + i%2})
	}
	return m
}

// some are modules that have bytes.
func some() []api.Module { return []api.Module{smallest(), usual(), loose(), greatest()} }

// text is a module's bytes, told another way; what doesn't fit is cut.
func text(m api.Module) string {
	flag := map[bool]byte{true: 1}
	b := []byte("CWM1\x00\x00\x00\x00")
	two := func(n int) { b = binary.BigEndian.AppendUint16(b, uint16(n)) }
	four := func(n int) { b = binary.BigEndian.AppendUint32(b, uint32(n)) }
	b = binary.BigEndian.AppendUint64(b, m.Epoch)
	b = append(b, byte(m.First), byte(len(m.Parts)), byte(len(m.Schedules)))
	two(len(m.Pairs))
	two(len(m.Acts))
	for _, p := range m.Parts {
		b = append(b, byte(p.Id), flag[p.May], byte(len(p.Name)))
		b = append(b, p.Name...)
		b = append(b, byte(len(p.Cells)))
		for _, c := range p.Cells {
			b = append(b, flag[c.Kept])
			four(int(c.Value))
		}
	}
	for _, x := range m.Schedules {
		b = append(b, byte(x.Id))
		four(x.Frame)
		two(len(x.Windows))
		for _, w := range x.Windows {
			b = append(b, byte(w.Id))
			four(w.Offset)
			four(w.Length)
		}
		b = append(b, byte(len(x.Needs)))
		for _, n := range x.Needs {
			b = append(b, byte(n.Id))
			four(n.Period)
			four(n.Budget)
		}
	}
	for _, p := range m.Pairs {
		b = append(b, byte(p.From), byte(p.To))
	}
	for _, a := range m.Acts {
		b = append(b, byte(a.Schedule), byte(a.Partition), byte(a.Action))
	}
	return right(string(b) + "....")
}

// long is a text of eight bytes at least with another length than it said.
func long(s string, n int) string {
	b := []byte(s)
	binary.BigEndian.PutUint32(b[4:], uint32(n))
	return string(b)
}

// summed is a text of four bytes at least whose last four are the sum that they are to be, told another way.
func summed(s string) string {
	end := len(s) - 4
	return s[:end] + string(binary.BigEndian.AppendUint32(nil, crc32.ChecksumIEEE([]byte(s[:end]))))
}

// right is a text of eight bytes at least with the length and the sum that it is to have.
func right(s string) string { return summed(long(s, len(s))) }

// deep is a module made anew, row by row; where there is nothing, its lists are nil.
func deep(m api.Module) api.Module {
	n := m
	n.Parts, n.Schedules = nil, nil
	n.Pairs, n.Acts = append([]api.Pair(nil), m.Pairs...), append([]api.Act(nil), m.Acts...)
	for _, p := range m.Parts {
		p.Cells = append([]api.Cell(nil), p.Cells...)
		n.Parts = append(n.Parts, p)
	}
	for _, x := range m.Schedules {
		x.Windows, x.Needs = append([]api.Window(nil), x.Windows...), append([]api.Need(nil), x.Needs...)
		n.Schedules = append(n.Schedules, x)
	}
	return n
}

// equal tells whether two modules are one, told another way.
func equal(a, b api.Module) bool { return reflect.DeepEqual(deep(a), deep(b)) }

// cursor goes over a text in a section, and knows the first fault that it met.
type cursor struct {
	s           string
	section, at int
	f           api.Fault
}

// fail keeps a fault, unless there is one.
func (c *cursor) fail(k api.Errno, at int) {
	if c.f == (api.Fault{}) {
		c.f = api.Fault{Error: k, Section: c.section, At: at}
	}
}

// bytes are the next n ones, as many zeros where something is wrong.
func (c *cursor) bytes(n int) []byte {
	if len(c.s) < c.at+n {
		c.fail(api.ErrShort, c.at)
	}
	if c.f != (api.Fault{}) {
		return make([]byte, n)
	}
	c.at += n
	return []byte(c.s[c.at-n : c.at])
}

// next is the number of the next n bytes, from least to most; else 0, and k is wrong.
func (c *cursor) next(n, least, most int, k api.Errno) int {
	at, v := c.at, 0
	for _, b := range c.bytes(n) {
		v = v*256 + int(b)
	}
	if v < least || v > most {
		c.fail(k, at)
		return 0
	}
	return v
}

// above is the next byte, which is above the one ahead.
func (c *cursor) above(last int) int { return c.next(1, last+1, 255, api.ErrOrder) }

// flag is the next byte, which says yes or no.
func (c *cursor) flag() bool { return c.next(1, 0, 1, api.ErrForm) == 1 }

// ticks is the next number of ticks.
func (c *cursor) ticks() int { return c.next(4, 0, most, api.ErrRange) }

// name is the next name.
func (c *cursor) name() string {
	at := c.at
	s := string(c.bytes(c.next(1, 1, 16, api.ErrName)))
	if !name.Right(s) {
		c.fail(api.ErrName, at)
	}
	return s
}

// model tells what a text's module is, and what is wrong, step by step.
func model(s string) (api.Module, api.Fault) {
	c := &cursor{s: s, section: 1}
	for _, b := range []int{0x43, 0x57, 0x4d, 0x31} {
		c.next(1, b, b, api.ErrMagic)
	}
	total := c.next(4, 0, math.MaxUint32, api.ErrArg)
	m := api.Module{Epoch: binary.BigEndian.Uint64(c.bytes(8)), First: int(c.bytes(1)[0])}
	n := [4]int{c.next(1, 1, 32, api.ErrMany), c.next(1, 1, 16, api.ErrMany), c.next(2, 0, 240, api.ErrMany), c.next(2, 0, 512, api.ErrMany)}
	if total != len(s) {
		c.fail(api.ErrLength, 4)
	}
	c.section = 6
	if len(s) < 27 {
		c.fail(api.ErrShort, 23)
	}
	if c.f != (api.Fault{}) {
		return api.Module{}, c.f
	}
	end := len(s) - 4
	if crc32.ChecksumIEEE([]byte(s[:end])) != binary.BigEndian.Uint32([]byte(s[end:])) {
		c.fail(api.ErrSum, end)
	}
	c.s = s[:end]
	m.Parts, m.Schedules, m.Pairs, m.Acts = c.parts(n[0]), c.scheds(n[1]), c.pairs(n[2]), c.acts(n[3])
	c.section = 6
	if c.at != end {
		c.fail(api.ErrLength, c.at)
	}
	if c.f != (api.Fault{}) {
		return api.Module{}, c.f
	}
	return m, c.f
}

// parts are the next n partitions.
func (c *cursor) parts(n int) (l []api.Partition) {
	c.section = 2
	last := -1
	for range n {
		p := api.Partition{Id: c.above(last)}
		p.May, p.Name = c.flag(), c.name()
		for range c.next(1, 0, 16, api.ErrMany) {
			kept := c.flag()
			p.Cells = append(p.Cells, api.Cell{Kept: kept, Value: binary.BigEndian.Uint32(c.bytes(4))})
		}
		l, last = append(l, p), p.Id
	}
	return l
}

// scheds are the next n schedules.
func (c *cursor) scheds(n int) (l []api.Schedule) {
	c.section = 3
	last := -1
	for range n {
		x := api.Schedule{Id: c.above(last)}
		x.Frame = c.next(4, 1, most, api.ErrRange)
		for range c.next(2, 0, 256, api.ErrMany) {
			w := api.Window{Id: int(c.bytes(1)[0])}
			w.Offset, w.Length = c.ticks(), c.ticks()
			x.Windows = append(x.Windows, w)
		}
		for range c.next(1, 0, 32, api.ErrMany) {
			w := api.Need{Id: int(c.bytes(1)[0])}
			w.Period, w.Budget = c.ticks(), c.ticks()
			x.Needs = append(x.Needs, w)
		}
		l, last = append(l, x), x.Id
	}
	return l
}

// pairs are the next n transitions.
func (c *cursor) pairs(n int) (l []api.Pair) {
	c.section = 4
	last := -1
	for range n {
		at := c.at
		p := api.Pair{From: int(c.bytes(1)[0]), To: int(c.bytes(1)[0])}
		v := p.From<<8 | p.To
		if v <= last {
			c.fail(api.ErrOrder, at)
		}
		l, last = append(l, p), v
	}
	return l
}

// acts are the next n.
func (c *cursor) acts(n int) (l []api.Act) {
	c.section = 5
	last := -1
	for range n {
		at := c.at
		x := api.Act{Schedule: int(c.bytes(1)[0]), Partition: int(c.bytes(1)[0])}
		x.Action = c.next(1, 1, 2, api.ErrForm)
		v := x.Schedule<<8 | x.Partition
		if v <= last {
			c.fail(api.ErrOrder, at)
		}
		l, last = append(l, x), v
	}
	return l
}

// held holds what Decode tells of a text against the model, and what is decoded against its bytes; the model's fault.
func held(t *testing.T, s string) api.Fault {
	t.Helper()
	want, f := model(s)
	m, e := Decode(s)
	if !equal(m, want) || fault.Of(e) != f || (e == nil) != (f == api.Fault{}) || e != nil && fault.Depth(e) != 2 {
		t.Errorf("%q: %v %v, not %v %v", s, m, fault.Text(e), want, f)
	}
	if e == nil {
		if b, e := Encode(m); b != s || e != nil || Size(m) != len(s) {
			t.Errorf("%q: %q %v", s, b, fault.Text(e))
		}
	}
	return f
}

// refused tells whether a text is refused as it is to be, and nothing else is told.
func refused(t *testing.T, s string, k api.Errno, section, at int) {
	t.Helper()
	if f := held(t, s); f != (api.Fault{Error: k, Section: section, At: at}) {
		t.Errorf("%q: %v, not %d %d %d", s, f, k, section, at)
	}
}

// put is a text with other bytes at a place.
func put(s string, at int, b string) string { return s[:at] + b + s[at+len(b):] }

// ruled is a row of numbers that a rule makes, each of which is below what it is asked with.
func ruled(x uint64) func(n int) int {
	return func(n int) int {
		x = x*6364136223846793005 + 1442695040888963407
		return int(x>>33) % n
	}
}

// mixed is a module that a rule makes, which has bytes.
func mixed(next func(n int) int) api.Module {
	m := api.Module{Epoch: uint64(next(1<<31))<<33 | uint64(next(1<<31)), First: next(256)}
	id := -1
	for range 1 + next(7) {
		id += 1 + next(30)
		p := api.Partition{Id: id, Name: name.Make(next(1000)), May: next(2) == 1}
		for range next(4) {
			p.Cells = append(p.Cells, api.Cell{Value: uint32(next(1<<31)) * 2, Kept: next(2) == 1})
		}
		m.Parts = append(m.Parts, p)
	}
	id = -1
	for range 1 + next(5) {
		id += 1 + next(50)
		x := api.Schedule{Id: id, Frame: 1 + next(most)}
		for range next(5) {
			x.Windows = append(x.Windows, api.Window{Id: next(256), Offset: next(most + 1), Length: next(most + 1)})
		}
		for range next(4) {
			x.Needs = append(x.Needs, api.Need{Id: next(256), Period: next(most + 1), Budget: next(most + 1)})
		}
		m.Schedules = append(m.Schedules, x)
	}
	id = -1
	for range next(6) {
		id += 1 + next(9000)
		m.Pairs = append(m.Pairs, api.Pair{From: id >> 8, To: id & 255})
	}
	id = -1
	for range next(6) {
		id += 1 + next(9000)
		m.Acts = append(m.Acts, api.Act{Schedule: id >> 8, Partition: id & 255, Action: 1 + next(2)})
	}
	return m
}

func TestExample(t *testing.T) { // P12.1
	m, e := Decode("")
	if !equal(m, api.Module{}) || fault.Of(e) != (api.Fault{Error: api.ErrShort, Section: 1, At: 0}) || fault.Text(e) != "section 1: at 0: short" {
		t.Error(m, fault.Text(e))
	}
}

func TestEncode(t *testing.T) { // P12.1: what is handed in stays as it was
	for _, m := range some() {
		given := deep(m)
		s, e := Encode(m)
		if want := text(m); s != want || e != nil || Size(m) != len(want) || !equal(m, given) {
			t.Errorf("%v: %q %v", m, s, fault.Text(e))
		}
	}
	if n := Size(greatest()); n != 23+32*(20+16*5)+16*(8+256*9+32*9)+240*2+512*3+4 {
		t.Error(n)
	}
	if n := Size(smallest()); n != 27+5+8 {
		t.Error(n)
	}
}

// spoiled is a change that makes something of the usual module wrong, and what is wrong then.
type spoiled struct {
	by func(m *api.Module)
	f  api.Fault
}

// spoils are such changes, in the order in which what is wrong is told.
func spoils() []spoiled {
	of := func(k api.Errno, section, at int) api.Fault { return api.Fault{Error: k, Section: section, At: at} }
	return []spoiled{
		{func(m *api.Module) { m.First = 256 }, of(api.ErrRange, 1, 0)},
		{func(m *api.Module) { m.Parts = make([]api.Partition, 33) }, of(api.ErrMany, 1, 1)},
		{func(m *api.Module) { m.Schedules = make([]api.Schedule, 17) }, of(api.ErrMany, 1, 2)},
		{func(m *api.Module) { m.Pairs = make([]api.Pair, 241) }, of(api.ErrMany, 1, 3)},
		{func(m *api.Module) { m.Acts = make([]api.Act, 513) }, of(api.ErrMany, 1, 4)},
		{func(m *api.Module) { m.Parts[0].Id = -1 }, of(api.ErrRange, 2, 0)},
		{func(m *api.Module) { m.Parts[1].Name = "p" }, of(api.ErrName, 2, 1)},
		{func(m *api.Module) { m.Parts[2].Cells = make([]api.Cell, 17) }, of(api.ErrMany, 2, 2)},
		{func(m *api.Module) { m.Schedules[0].Frame = 0 }, of(api.ErrRange, 3, 0)},
		{func(m *api.Module) { m.Schedules[1].Id = 2 }, of(api.ErrOrder, 3, 1)},
		{func(m *api.Module) { m.Schedules[2].Needs = make([]api.Need, 33) }, of(api.ErrMany, 3, 2)},
		{func(m *api.Module) { m.Pairs[0].To = 256 }, of(api.ErrRange, 4, 0)},
		{func(m *api.Module) { m.Pairs[2] = m.Pairs[1] }, of(api.ErrOrder, 4, 2)},
		{func(m *api.Module) { m.Acts[0].Schedule = -1 }, of(api.ErrRange, 5, 0)},
		{func(m *api.Module) { m.Acts[1].Action = 0 }, of(api.ErrForm, 5, 1)},
		{func(m *api.Module) { m.Acts[2] = m.Acts[1] }, of(api.ErrOrder, 5, 2)},
	}
}

func TestEncodeRefuses(t *testing.T) { // P12.1: what is wrong first, whatever is wrong behind it
	l := spoils()
	for i, x := range l {
		for _, y := range l[i:] {
			m := usual()
			x.by(&m)
			y.by(&m)
			given := deep(m)
			s, e := Encode(m)
			if s != "" || fault.Of(e) != x.f || fault.Depth(e) != 2 || Size(m) != 0 || !equal(m, given) {
				t.Errorf("%v %v: %q %v", x.f, y.f, s, fault.Text(e))
			}
		}
	}
	if s, e := Encode(api.Module{}); s != "" || fault.Text(e) != "section 1: at 1: many" || Size(api.Module{}) != 0 {
		t.Errorf("%q %v", s, fault.Text(e))
	}
	none := usual()
	none.Schedules = nil
	if s, e := Encode(none); s != "" || fault.Text(e) != "section 1: at 2: many" || Size(none) != 0 {
		t.Errorf("%q %v", s, fault.Text(e))
	}
}

func TestDecode(t *testing.T) { // P12.1: whether or not a module may be loaded
	for _, m := range some() {
		s := text(m)
		if got, e := Decode(s); !equal(got, m) || e != nil {
			t.Errorf("%q: %v %v", s, got, fault.Text(e))
		}
		held(t, s)
	}
}

func TestDecodeCut(t *testing.T) { // P12.1: each beginning: as it is, with its length, and with its sum, too
	for _, m := range []api.Module{smallest(), usual(), loose()} {
		s := text(m)
		for n := range len(s) {
			if n < 23 {
				at := 0
				for _, start := range []int{1, 2, 3, 4, 8, 16, 17, 18, 19, 21} {
					if start <= n {
						at = start
					}
				}
				refused(t, s[:n], api.ErrShort, 1, at)
				continue
			}
			refused(t, s[:n], api.ErrLength, 1, 4)
			cut := long(s[:n], n)
			if n < 27 {
				refused(t, cut, api.ErrShort, 6, 23)
				held(t, summed(cut)) // whose sum reaches into the header
				continue
			}
			refused(t, cut, api.ErrSum, 6, n-4)
			if f := held(t, summed(cut)); f.Error != api.ErrShort || f.Section < 2 || f.Section > 5 || f.At > n-4 {
				t.Errorf("%q: %v", summed(cut), f)
			}
		}
	}
}

func TestDecodeEachByte(t *testing.T) { // P12.1, P12.2: each byte each other one, as it is, and with its length and sum
	for _, m := range []api.Module{smallest(), usual(), loose()} {
		s := text(m)
		for at := range s {
			for c := range 256 {
				if byte(c) == s[at] {
					continue
				}
				turned := put(s, at, string([]byte{byte(c)}))
				held(t, right(turned))
				switch f := held(t, turned); {
				case at < 4 && f != (api.Fault{Error: api.ErrMagic, Section: 1, At: at}),
					at >= 4 && at < 8 && f != (api.Fault{Error: api.ErrLength, Section: 1, At: 4}),
					(at >= 8 && at < 17 || at >= 23) && f != (api.Fault{Error: api.ErrSum, Section: 6, At: len(s) - 4}):
					t.Errorf("%q: %v", turned, f)
				}
			}
		}
	}
}

func TestDecodeLength(t *testing.T) { // P12.1: each other Total; what is wrong in the header comes first, the sum behind
	s := text(usual())
	for _, n := range []int{0, 1, 22, 23, 26, 27, len(s) - 4, len(s) - 1, len(s) + 1, len(s) + 4, len(s) + 1<<8, len(s) + 1<<16, len(s) + 1<<24, 1 << 31, math.MaxUint32} {
		other := long(s, n)
		refused(t, other, api.ErrLength, 1, 4)
		refused(t, summed(other), api.ErrLength, 1, 4)
		refused(t, put(other, 17, "\x00"), api.ErrMany, 1, 17)
		if n != 25 {
			refused(t, other[:25], api.ErrLength, 1, 4)
		}
	}
	for _, behind := range []string{"x", "\x00", s, s[len(s)-4:], strings.Repeat("\x00", 1000)} {
		refused(t, s+behind, api.ErrLength, 1, 4)
	}
}

func TestDecodeFew(t *testing.T) { // P12.1: a header and less than a sum, and a sum alone
	for _, front := range []string{"CWM1....ABCDEFGH\x07\x01\x01\x00\x00\x00\x00", text(greatest())[:23]} {
		for n, behind := range []string{"", "a", "ab", "abc"} {
			refused(t, long(front+behind, 23+n), api.ErrShort, 6, 23)
		}
		refused(t, long(front+"abcd", 27), api.ErrSum, 6, 23)
		refused(t, right(front+"abcd"), api.ErrShort, 2, 23)
		refused(t, right(front + "a....")[:27], api.ErrLength, 1, 4)
	}
}

func TestDecodeSum(t *testing.T) { // P12.1: the sum, ahead of all that is wrong in the sections behind the header
	for _, m := range some() {
		s := text(m)
		end := len(s) - 4
		for _, sum := range []string{"\x00\x00\x00\x00", "\xff\xff\xff\xff", "abcd", s[:4], s[end+1:] + s[end:end+1]} {
			refused(t, s[:end]+sum, api.ErrSum, 6, end)
			refused(t, put(s[:end]+sum, 24, "\x02"), api.ErrSum, 6, end)
			refused(t, long(s[:end]+"x"+sum, len(s)+1), api.ErrSum, 6, end+1)
		}
	}
}

func TestDecodeSections(t *testing.T) { // P12.1: section by section; the last four bytes are none of them
	s := text(smallest())[:36]                                           // without its sum
	s = put(s, 20, "\x02\x00\x01") + "\x01\x02\x01\x03" + "\x05\x06\x01" // two transitions, an act
	if f := held(t, right(s+"....")); f != (api.Fault{}) {
		t.Error(f)
	}
	behind := []struct {
		at      int
		b       string
		k       api.Errno
		section int
		place   int
	}{
		{24, "\x02", api.ErrForm, 2, 24}, {25, "\x00", api.ErrName, 2, 25}, {27, "\x11", api.ErrMany, 2, 27},
		{29, "\x00\x00\x00\x00", api.ErrRange, 3, 29}, {33, "\x01\x01", api.ErrMany, 3, 33}, {35, "\x21", api.ErrMany, 3, 35},
		{38, "\x01\x02", api.ErrOrder, 4, 38}, {38, "\x00\x09", api.ErrOrder, 4, 38},
		{42, "\x00", api.ErrForm, 5, 42}, {42, "\x03", api.ErrForm, 5, 42},
	}
	for i, x := range behind {
		for _, y := range behind[i:] {
			spoiled := put(put(s, y.at, y.b), x.at, x.b)
			refused(t, right(spoiled+"...."), x.k, x.section, x.place)
			refused(t, right(spoiled+"....behind"), x.k, x.section, x.place)
		}
	}
	for _, x := range []struct {
		at      int
		b       string
		section int
		place   int
	}{{22, "\x02", 5, 43}, {21, "\x02\x00", 5, 43}} { // more acts than there are bytes ahead of the sum
		refused(t, right(put(s, x.at, x.b)+"...."), api.ErrShort, x.section, x.place)
	}
}

func TestDecodeBehind(t *testing.T) { // P12.1: bytes between the acts and the sum, however many
	for _, m := range some() {
		s := text(m)
		end := len(s) - 4
		for _, n := range []int{1, 2, 3, 4, 5, 27, 255, 256, 257, 70000} {
			refused(t, right(s[:end]+strings.Repeat("x", n)+"...."), api.ErrLength, 6, end)
			refused(t, right(s+strings.Repeat("\x00", n)), api.ErrLength, 6, end)
		}
	}
	m := usual()
	m.Acts = nil
	s := text(m)
	refused(t, right(s[:len(s)-4]+"\x01\x02\x01...."), api.ErrLength, 6, len(s)-4)
}

func TestDecodeMixed(t *testing.T) { // P12.1, P12.2: many modules' bytes, some of them turned, cut out or put in
	next := ruled(1)
	good := 0
	for range 20000 {
		b := []byte(text(mixed(next)))
		for range next(4) {
			at := 17 + next(len(b)-17)
			switch next(4) {
			case 0:
				b[at] = byte(next(256))
			case 1:
				b[at] ^= 1 << next(8)
			case 2:
				b = append(b[:at], append([]byte{byte(next(3))}, b[at:]...)...)
			case 3:
				b = append(b[:at:at], b[at+1:]...)
			}
		}
		if len(b) < 27 {
			continue
		}
		held(t, string(b))
		if f := held(t, right(string(b))); f == (api.Fault{}) {
			good++
		}
	}
	if good < 5000 || good > 15000 {
		t.Error(good)
	}
}

func TestDecodeAnyBytes(t *testing.T) { // P12.1: bytes of no rule, also behind a header that may be
	next := ruled(2)
	for range 20000 {
		b := make([]byte, next(80))
		for i := range b {
			b[i] = byte(next(256)) >> next(9)
		}
		held(t, string(b))
		held(t, "CWM1"+string(b))
		if len(b) >= 27 {
			s := put(string(b), 0, "CWM1")
			held(t, right(s))
			s = put(s, 17, string([]byte{byte(1 + next(3)), byte(1 + next(3)), 0, byte(next(3)), 0, byte(next(3))}))
			held(t, right(s))
			held(t, right(s[:23]+"\x00\x01\x01A\x00"+s[23:]))
		}
	}
}

func TestDecodeOfIsNewMemory(t *testing.T) { // P12.1: no two answers, and no two lists of one, share anything
	for _, m := range some() {
		s := text(m)
		a, _ := Decode(s)
		b, _ := Decode(s)
		scribble(&a)
		if !equal(b, m) {
			t.Errorf("%v: %v", m, b)
		}
		for _, l := range b.Parts {
			_ = append(l.Cells, api.Cell{Value: 99})
		}
		for _, x := range b.Schedules {
			_, _ = append(x.Windows, api.Window{Id: 99}), append(x.Needs, api.Need{Id: 99})
		}
		if !equal(b, m) {
			t.Errorf("%v: %v", m, b)
		}
	}
}

// scribble writes over all that a module's lists have, their spare room too.
func scribble(m *api.Module) {
	m.Epoch, m.First = 99, 99
	for i := range m.Parts[:cap(m.Parts)] {
		p := &m.Parts[:cap(m.Parts)][i]
		for j := range p.Cells[:cap(p.Cells)] {
			p.Cells[:cap(p.Cells)][j] = api.Cell{Value: 99, Kept: true}
		}
		*p = api.Partition{Id: 99, Name: "OTHER", Cells: p.Cells}
	}
	for i := range m.Schedules[:cap(m.Schedules)] {
		x := &m.Schedules[:cap(m.Schedules)][i]
		for j := range x.Windows[:cap(x.Windows)] {
			x.Windows[:cap(x.Windows)][j] = api.Window{Id: 99, Offset: 99, Length: 99}
		}
		for j := range x.Needs[:cap(x.Needs)] {
			x.Needs[:cap(x.Needs)][j] = api.Need{Id: 99, Period: 99, Budget: 99}
		}
		*x = api.Schedule{Id: 99, Frame: 99, Windows: x.Windows, Needs: x.Needs}
	}
	for i := range m.Pairs[:cap(m.Pairs)] {
		m.Pairs[:cap(m.Pairs)][i] = api.Pair{From: 99, To: 99}
	}
	for i := range m.Acts[:cap(m.Acts)] {
		m.Acts[:cap(m.Acts)][i] = api.Act{Schedule: 99, Partition: 99, Action: 99}
	}
}

func TestSeal(t *testing.T) { // P12.1: any bytes, of any length, also such as are no configuration
	next := ruled(3)
	for n := range 400 {
		b := make([]byte, n)
		for i := range b {
			b[i] = byte(next(256))
		}
		s := string(b)
		want := s
		if n >= 27 {
			want = right(s)
		}
		if got := Seal(s); got != want || Seal(got) != got {
			t.Errorf("%q: %q", s, got)
		}
	}
	for _, n := range []int{26, 27, 28, 255, 256, 65535, 65536, 70000, 1 << 24} {
		for _, c := range []string{"\x00", "x", "\xff"} {
			s := strings.Repeat(c, n)
			if got := Seal(s); n < 27 && got != s || n >= 27 && (got != right(s) || got[:4] != s[:4] || got[8:n-4] != s[8:n-4]) {
				t.Errorf("%q %d", c, n)
			}
		}
	}
}

func TestSealMakesAConfiguration(t *testing.T) { // P12.1: of bytes that could be one but for Total and the sum
	for _, m := range some() {
		s := text(m)
		if Seal(s) != s {
			t.Errorf("%q: %q", s, Seal(s))
		}
		for _, not := range []string{long(s, 0), long(s, math.MaxUint32), s[:len(s)-4] + "\x00\x00\x00\x00", long(s[:len(s)-4]+"abcd", 77)} {
			if _, e := Decode(not); e == nil {
				t.Errorf("%q", not)
			}
			if got, e := Decode(Seal(not)); e != nil || !equal(got, m) {
				t.Errorf("%q: %v %v", not, got, fault.Text(e))
			}
		}
	}
}

// changes are changes of the usual module, each of which makes it another one.
func changes() []func(m *api.Module) {
	return []func(m *api.Module){
		func(m *api.Module) { m.Epoch++ },
		func(m *api.Module) { m.Epoch ^= 1 << 63 },
		func(m *api.Module) { m.First = -1 },
		func(m *api.Module) { m.Parts = nil },
		func(m *api.Module) { m.Parts = m.Parts[:2] },
		func(m *api.Module) { m.Parts = append(m.Parts, api.Partition{}) },
		func(m *api.Module) { m.Parts[0].Id++ },
		func(m *api.Module) { m.Parts[1].Name += "X" },
		func(m *api.Module) { m.Parts[2].May = true },
		func(m *api.Module) { m.Parts[0].Cells[1].Value++ },
		func(m *api.Module) { m.Parts[0].Cells[1].Kept = true },
		func(m *api.Module) { m.Parts[2].Cells = nil },
		func(m *api.Module) { m.Parts[0], m.Parts[1] = m.Parts[1], m.Parts[0] },
		func(m *api.Module) { m.Schedules = nil },
		func(m *api.Module) { m.Schedules = m.Schedules[1:] },
		func(m *api.Module) { m.Schedules = append(m.Schedules, api.Schedule{}) },
		func(m *api.Module) { m.Schedules[2].Id++ },
		func(m *api.Module) { m.Schedules[1].Frame++ },
		func(m *api.Module) { m.Schedules[0].Windows[1].Length-- },
		func(m *api.Module) { m.Schedules[0].Windows = m.Schedules[0].Windows[:1] },
		func(m *api.Module) { m.Schedules[2].Needs[1].Budget-- },
		func(m *api.Module) { m.Schedules[2].Needs = m.Schedules[2].Needs[1:] },
		func(m *api.Module) { m.Pairs = nil },
		func(m *api.Module) { m.Pairs[2].To++ },
		func(m *api.Module) { m.Pairs[0].From++ },
		func(m *api.Module) { m.Pairs = append(m.Pairs, api.Pair{}) },
		func(m *api.Module) { m.Acts = nil },
		func(m *api.Module) { m.Acts[2].Action = 2 },
		func(m *api.Module) { m.Acts[0].Partition++ },
		func(m *api.Module) { m.Acts[1].Schedule++ },
		func(m *api.Module) { m.Acts = append(m.Acts, api.Act{}) },
	}
}

func TestSame(t *testing.T) { // P12.1: modules whose bytes there are, and others; two that differ in one thing aren't one
	var all []api.Module
	for _, change := range append(changes(), func(*api.Module) {}) {
		m := usual()
		change(&m)
		all = append(all, m)
	}
	all = append(all, api.Module{}, smallest(), loose(), greatest())
	for i, a := range all {
		for j, b := range all {
			given, other := deep(a), deep(b)
			if Same(a, b) != (i == j) || Same(a, other) != (i == j) || !equal(a, given) || !equal(b, other) {
				t.Error(a, b)
			}
		}
	}
}

func TestSameOfNoThings(t *testing.T) { // P12.1: nil and empty lists are one
	empty := api.Module{Parts: []api.Partition{}, Schedules: []api.Schedule{}, Pairs: []api.Pair{}, Acts: []api.Act{}}
	if !Same(empty, api.Module{}) || !Same(api.Module{}, empty) || !Same(empty, Clone(empty)) {
		t.Error("empty")
	}
	a, b := smallest(), smallest()
	b.Parts[0].Cells, b.Schedules[0].Windows, b.Schedules[0].Needs, b.Pairs, b.Acts = []api.Cell{}, []api.Window{}, []api.Need{}, []api.Pair{}, []api.Act{}
	if !Same(a, b) || !Same(b, a) || !Same(b, Clone(b)) {
		t.Error("empty lists within")
	}
	s, e := Encode(b)
	if s != text(a) || e != nil {
		t.Errorf("%q %v", s, fault.Text(e))
	}
}

func TestClone(t *testing.T) { // P12.1: the same, whatever it is, with all lists of its own
	var all []api.Module
	for _, x := range spoils() {
		m := usual()
		x.by(&m)
		all = append(all, m)
	}
	for _, m := range append(append(all, some()...), api.Module{}) {
		given := deep(m)
		a, b := Clone(m), Clone(m)
		if !equal(a, given) || !Same(a, m) {
			t.Errorf("%v: %v", m, a)
		}
		scribble(&a)
		if !equal(m, given) || !equal(b, given) {
			t.Errorf("%v: %v", given, m)
		}
		scribble(&m)
		if !equal(b, given) {
			t.Errorf("%v: %v", given, b)
		}
	}
}

func TestCloneSharesNoRoom(t *testing.T) { // P12.1: the spare room of what is handed in is left alone
	room := greatest()
	m := room
	m.Parts, m.Schedules, m.Pairs, m.Acts = room.Parts[:3], room.Schedules[:3], room.Pairs[:0], room.Acts[:5]
	whole := deep(room)
	c := Clone(m)
	_, _ = append(c.Parts, api.Partition{Id: 99}), append(c.Schedules, api.Schedule{Id: 99})
	_, _ = append(c.Pairs, api.Pair{From: 99}), append(c.Acts, api.Act{Schedule: 99})
	scribble(&c)
	if !equal(room, whole) {
		t.Error("written into")
	}
}

func TestWhatIsEncodedIsDecoded(t *testing.T) { // P12.2: whatever the module, if it has bytes
	next := ruled(4)
	for range 5000 {
		m := mixed(next)
		s, e := Encode(m)
		if s != text(m) || e != nil || Size(m) != len(s) {
			t.Fatalf("%v: %q %v", m, s, fault.Text(e))
		}
		if n, e := Decode(s); !equal(n, m) || !Same(n, m) || e != nil {
			t.Fatalf("%v: %v %v", m, n, fault.Text(e))
		}
	}
	for _, m := range some() {
		s, _ := Encode(m)
		if n, e := Decode(s); !equal(n, m) || e != nil {
			t.Errorf("%v: %v %v", m, n, fault.Text(e))
		}
	}
}

func TestWhatMayBeHasBytes(t *testing.T) { // P12.2: as many of each as may be, and one more
	few := func(parts, scheds, pairs, acts int) api.Module {
		m := greatest()
		for i := range 300 {
			m.Pairs = append(m.Pairs, api.Pair{From: 15, To: i})
			m.Acts = append(m.Acts, api.Act{Schedule: 16, Partition: i, Action: 1})
		}
		m.Parts = append(m.Parts, api.Partition{Id: 255, Name: "LAST"})
		m.Schedules = append(m.Schedules[:15], api.Schedule{Id: 254, Frame: 1}, api.Schedule{Id: 255, Frame: 1})
		m.Pairs = append(m.Pairs[:240:240], api.Pair{From: 15, To: 16})
		m.Parts, m.Schedules, m.Pairs, m.Acts = m.Parts[:parts], m.Schedules[:scheds], m.Pairs[:pairs], m.Acts[:acts]
		return m
	}
	for _, x := range []struct{ parts, scheds, pairs, acts, at int }{
		{1, 1, 0, 0, 0}, {32, 16, 240, 512, 0}, {31, 15, 239, 511, 0}, {1, 16, 0, 512, 0}, {32, 1, 240, 0, 0},
		{0, 16, 240, 512, 1}, {33, 16, 240, 512, 1}, {32, 0, 240, 512, 2}, {32, 17, 241, 513, 2}, {32, 16, 241, 513, 3}, {32, 16, 240, 513, 4},
	} {
		m := few(x.parts, x.scheds, x.pairs, x.acts)
		s, e := Encode(m)
		if x.at == 0 {
			if n, not := Decode(s); e != nil || not != nil || !equal(n, m) || s != text(m) {
				t.Error(x, fault.Text(e), fault.Text(not))
			}
		} else if s != "" || fault.Of(e) != (api.Fault{Error: api.ErrMany, Section: 1, At: x.at}) {
			t.Error(x, len(s), fault.Text(e))
		}
	}
}
