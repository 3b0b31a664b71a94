package parts

import (
	"bytes"
	"encoding/binary"
	"math"
	"slices"
	"strings"
	"testing"

	"countwheel/api"
	"countwheel/fault"
	"countwheel/name"
	"countwheel/reader"
)

// some are partitions that may be, in their order: the edges of all that they have.
var some = []api.Partition{
	{Id: 0, Name: "A"},
	{Id: 1, Name: "NAV", May: true},
	{Id: 2, Name: "ABCDEFGHIJKLMNOP", Cells: []api.Cell{{Value: math.MaxUint32, Kept: true}}},
	{Id: 127, Name: "P_1", May: true, Cells: []api.Cell{{Value: 0x01020304}, {Value: 0, Kept: true}, {}}},
	{Id: 128, Name: "A", Cells: manyCells(15)},
	{Id: 255, Name: "Z9", May: true, Cells: manyCells(16)},
}

// manyCells are n cells that differ.
func manyCells(n int) []api.Cell {
	l := make([]api.Cell, n)
	for i := range l {
		l[i] = api.Cell{Value: uint32(i) * 0x01010107, Kept: i%3 == 1}
	}
	return l
}

// text is partitions' bytes, told another way.
func text(l []api.Partition) string {
	flag := map[bool]byte{true: 1}
	var b []byte
	for _, p := range l {
		b = append(b, byte(p.Id), flag[p.May], byte(len(p.Name)))
		b = append(b, p.Name...)
		b = append(b, byte(len(p.Cells)))
		for _, c := range p.Cells {
			b = binary.BigEndian.AppendUint32(append(b, flag[c.Kept]), c.Value)
		}
	}
	return string(b)
}

// same tells whether lists are one.
func same(a, b []api.Partition) bool { return slices.EqualFunc(a, b, Same) }

// deep is a list made anew, cell by cell.
func deep(l []api.Partition) []api.Partition {
	var c []api.Partition
	for _, p := range l {
		p.Cells = append([]api.Cell(nil), p.Cells...)
		c = append(c, p)
	}
	return c
}

// of is a fault of section 2.
func of(k api.Errno, at int) api.Fault { return api.Fault{Error: k, Section: 2, At: at} }

// read reads partitions out of a text in front of which other bytes were read, in another section.
func read(front, s string, n int) ([]api.Partition, *reader.Reader, error) {
	r := reader.New(front + s)
	r.Enter(1)
	r.Text(len(front))
	l, e := Read(r, n)
	return l, r, e
}

// refused tells whether a text is refused at a place of it, and nothing else is told.
func refused(t *testing.T, s string, n int, k api.Errno, at int) {
	t.Helper()
	for _, front := range []string{"", "\x03\x01\x03", strings.Repeat("x", 300)} {
		want := of(k, len(front)+at)
		l, r, e := read(front, s, n)
		if len(l) != 0 || fault.Of(e) != want || r.Fault() != want || fault.Depth(e) != 2 {
			t.Errorf("%q %q %d: %v %v, not %v", front, s, n, l, fault.Text(e), want)
		}
	}
}

// model tells what n partitions of a text are, how many bytes they have, and what is wrong, step by step.
func model(s string, n int) (l []api.Partition, at int, f api.Fault) {
	last := -1
	for range n {
		p := api.Partition{}
		if len(s) < at+1 {
			return nil, 0, of(api.ErrShort, at)
		}
		if p.Id = int(s[at]); p.Id <= last {
			return nil, 0, of(api.ErrOrder, at)
		}
		if at++; len(s) < at+1 {
			return nil, 0, of(api.ErrShort, at)
		}
		if s[at] > 1 {
			return nil, 0, of(api.ErrForm, at)
		}
		p.May = s[at] == 1
		if at++; len(s) < at+1 {
			return nil, 0, of(api.ErrShort, at)
		}
		size := int(s[at])
		if size < 1 || size > 16 {
			return nil, 0, of(api.ErrName, at)
		}
		if len(s) < at+1+size {
			return nil, 0, of(api.ErrShort, at+1)
		}
		if p.Name = s[at+1 : at+1+size]; !name.Right(p.Name) {
			return nil, 0, of(api.ErrName, at)
		}
		if at += 1 + size; len(s) < at+1 {
			return nil, 0, of(api.ErrShort, at)
		}
		many := int(s[at])
		if many > 16 {
			return nil, 0, of(api.ErrMany, at)
		}
		at++
		for range many {
			if len(s) < at+1 {
				return nil, 0, of(api.ErrShort, at)
			}
			if s[at] > 1 {
				return nil, 0, of(api.ErrForm, at)
			}
			if len(s) < at+5 {
				return nil, 0, of(api.ErrShort, at+1)
			}
			p.Cells = append(p.Cells, api.Cell{Value: binary.BigEndian.Uint32([]byte(s[at+1:])), Kept: s[at] == 1})
			at += 5
		}
		l, last = append(l, p), p.Id
	}
	return l, at, api.Fault{}
}

// held holds what is read out of a text against the model.
func held(t *testing.T, s string, n int) {
	t.Helper()
	want, at, f := model(s, n)
	r := reader.New(s)
	l, e := Read(r, n)
	if !same(l, want) || fault.Of(e) != f || r.Fault() != f || (e == nil) != (f == api.Fault{}) || e == nil && r.Place() != at {
		t.Errorf("%q %d: %v %v, not %v %v", s, n, l, fault.Text(e), want, f)
	}
}

func TestExample(t *testing.T) { // P8.1
	b, e := Put(nil, []api.Partition{{Id: 3, Name: "NAV", May: true}})
	if !bytes.Equal(b, []byte{0x03, 0x01, 0x03, 0x4e, 0x41, 0x56, 0x00}) || e != nil {
		t.Errorf("%x %v", b, e)
	}
	l, e := Read(reader.New("\x03\x01\x03NAV\x00"), 1)
	if e != nil || len(l) != 1 || l[0].Id != 3 || l[0].Name != "NAV" || !l[0].May || len(l[0].Cells) != 0 {
		t.Error(l, e)
	}
}

func TestRight(t *testing.T) { // P8.1: each id beside each name beside each count of cells, the first that is wrong
	for _, id := range []int{math.MinInt, -256, -1, 0, 1, 32, 128, 254, 255, 256, 257, 511, 1 << 32, math.MaxInt} {
		for _, s := range []string{"A", "NAV_1", "ABCDEFGHIJKLMNOP", "", "a", "_A", "1NAV", "ABCDEFGHIJKLMNOPQ", "A\x00", "A-"} {
			for _, cells := range []int{0, 1, 15, 16, 17, 255, 256, 257, 272} {
				want := api.OK
				switch {
				case id < 0 || id > 255:
					want = api.ErrRange
				case !name.Right(s):
					want = api.ErrName
				case cells > 16:
					want = api.ErrMany
				}
				for _, may := range []bool{false, true} {
					if k := Right(api.Partition{Id: id, Name: s, May: may, Cells: manyCells(cells)}); k != want {
						t.Errorf("%d %q %d: %d, not %d", id, s, cells, k, want)
					}
				}
			}
		}
	}
	for id := range 300 {
		if k := Right(api.Partition{Id: id, Name: "A"}); (k == api.OK) != (id < 256) {
			t.Error(id, k)
		}
	}
	if k := Right(api.Partition{}); k != api.ErrName {
		t.Error(k)
	}
}

func TestPut(t *testing.T) { // P8.1: behind any bytes, of any length
	for _, front := range [][]byte{nil, {}, {7}, []byte("\x03\x01\x03NAV\x00"), bytes.Repeat([]byte{9}, 1000)} {
		for i := range some {
			for j := i; j <= len(some); j++ {
				b, e := Put(front, some[i:j])
				if string(b) != string(front)+text(some[i:j]) || e != nil {
					t.Errorf("%q %v: %q %v", front, some[i:j], b, fault.Text(e))
				}
			}
		}
		if b, e := Put(front, nil); string(b) != string(front) || e != nil {
			t.Errorf("%q: %q %v", front, b, e)
		}
	}
}

func TestPutAll(t *testing.T) { // P8.1: more than a module may have
	var l []api.Partition
	for id := range 256 {
		l = append(l, api.Partition{Id: id, Name: name.Make(id), Cells: manyCells(id % 17)})
	}
	b, e := Put(nil, l)
	if string(b) != text(l) || e != nil {
		t.Error(fault.Text(e))
	}
	if got, e := Read(reader.New(string(b)), 256); !same(got, l) || e != nil {
		t.Error(fault.Text(e))
	}
}

func TestPutRefuses(t *testing.T) { // P8.1: the first partition of which something is wrong, and what is wrong first of it
	bad := map[api.Errno][]api.Partition{
		api.ErrRange: {{Id: -1, Name: "A"}, {Id: 256, Name: "A"}, {Id: math.MinInt}, {Id: 256, Cells: manyCells(17)}},
		api.ErrName:  {{Id: 200}, {Id: 0}, {Id: 200, Name: "a"}, {Id: 3, Name: "1A", Cells: manyCells(17)}},
		api.ErrMany:  {{Id: 200, Name: "A", Cells: manyCells(17)}, {Id: 0, Name: "A", Cells: manyCells(300)}},
		api.ErrOrder: {{Id: 127, Name: "A"}, {Id: 126, Name: "A"}, {Id: 0, Name: "Z", Cells: manyCells(16)}},
	}
	for k, l := range bad {
		for _, p := range l {
			for _, behind := range [][]api.Partition{nil, some, {{Id: 999}}, {{Id: 0, Name: "A"}}} {
				all := append(append(deep(some[:4]), p), behind...)
				for _, front := range []string{"", "front"} {
					b, e := Put([]byte(front), all)
					if string(b) != front || fault.Of(e) != of(k, 4) || fault.Text(e) != "section 2: at 4: "+fault.Name(k) {
						t.Errorf("%v: %q %v", p, b, fault.Text(e))
					}
				}
			}
		}
	}
}

func TestPutRefusesTheFirst(t *testing.T) { // P8.1: of none ahead there is no order; the place 0 is told, too
	for k, p := range map[api.Errno]api.Partition{api.ErrRange: {Id: -1, Name: "A"}, api.ErrName: {}, api.ErrMany: {Name: "A", Cells: manyCells(17)}} {
		if b, e := Put(nil, []api.Partition{p}); len(b) != 0 || fault.Text(e) != "section 2: at 0: "+fault.Name(k) {
			t.Errorf("%v: %q %v", p, b, fault.Text(e))
		}
	}
	if _, e := Put(nil, []api.Partition{{Id: 0, Name: "A"}}); e != nil {
		t.Error(fault.Text(e))
	}
	if _, e := Put(nil, []api.Partition{{Id: 255, Name: "A"}, {Id: 254, Name: "A"}}); fault.Of(e) != of(api.ErrOrder, 1) {
		t.Error(fault.Text(e))
	}
}

func TestPutIsNewMemory(t *testing.T) { // P8.1: spare room is not written to, and nothing is shared or changed
	for _, l := range [][]api.Partition{some, some[:1], nil, {{}}, {some[1], some[0]}} {
		given := deep(l)
		for _, n := range []int{0, 3} {
			room := []byte("abc" + strings.Repeat(".", 500))
			before := bytes.Clone(room)
			a, _ := Put(room[:n], given)
			b, _ := Put(room[:n], given)
			kept := bytes.Clone(b)
			for i := range a[:cap(a)] {
				a[:cap(a)][i] = 77
			}
			if !bytes.Equal(room, before) || !bytes.Equal(b, kept) || !same(given, l) {
				t.Errorf("%v: %q %q", l, room, b)
			}
			for i := range room {
				room[i] = 78
			}
			if !bytes.Equal(b, kept) {
				t.Errorf("%v: %q", l, b)
			}
		}
	}
}

func TestRead(t *testing.T) { // P8.1: just as many as are asked for, and the reader is in section 2 then
	for _, front := range []string{"", "\x00", strings.Repeat("x", 300)} {
		for _, back := range []string{"", "\x03\x01\x03NAV\x00", "\xff"} {
			for n := range len(some) + 1 {
				l, r, e := read(front, text(some[:n])+back, n)
				if !same(l, some[:n]) || e != nil || r.Err() != nil || r.Place() != len(front)+len(text(some[:n])) || r.Left() != len(back) {
					t.Errorf("%q %q %d: %v %v", front, back, n, l, fault.Text(e))
				}
				if r.Fail(api.ErrSum, 5); r.Fault() != of(api.ErrSum, 5) {
					t.Error(r.Fault())
				}
			}
		}
	}
}

func TestReadNone(t *testing.T) { // P8.1: of no partitions, or fewer, nothing is read
	for _, n := range []int{0, -1, -2, math.MinInt} {
		for _, s := range []string{"", text(some), "\xff"} {
			l, r, e := read("x", s, n)
			if len(l) != 0 || e != nil || r.Err() != nil || r.Place() != 1 {
				t.Errorf("%q %d: %v %v", s, n, l, fault.Text(e))
			}
			if r.Fail(api.ErrSum, 5); r.Fault() != of(api.ErrSum, 5) {
				t.Error(r.Fault())
			}
		}
	}
}

func TestReadMoreThanThereAre(t *testing.T) { // P8.1: however many are asked for, it ends
	s := text(some)
	for _, n := range []int{len(some) + 1, 257, 1 << 31, 1 << 40, math.MaxInt} {
		refused(t, s, n, api.ErrShort, len(s))
		refused(t, s+"\xff\x00\x01A\x00", n, api.ErrOrder, len(s))
		refused(t, "", n, api.ErrShort, 0)
	}
}

func TestReadFieldByField(t *testing.T) { // P8.1: the first that is wrong, whatever stands behind it
	front := text(some[:2])
	for _, x := range []struct {
		s  string
		k  api.Errno
		at int
	}{
		{"", api.ErrShort, 0}, {"\x02", api.ErrShort, 1}, {"\x02\x00", api.ErrShort, 2}, {"\x02\x00\x03", api.ErrShort, 3}, {"\x02\x00\x03NA", api.ErrShort, 3},
		{"\x02\x00\x03NAV", api.ErrShort, 6}, {"\x02\x00\x03NAV\x02", api.ErrShort, 7}, {"\x02\x00\x03NAV\x02\x01", api.ErrShort, 8}, {"\x02\x00\x03NAV\x02\x01\x00\x00\x00", api.ErrShort, 8},
		{"\x02\x00\x03NAV\x02\x01\x00\x00\x00\x00", api.ErrShort, 12}, {"\x02\x00\x03NAV\x02\x01\x00\x00\x00\x00\x00", api.ErrShort, 13},
		{"\x01", api.ErrOrder, 0}, {"\x00", api.ErrOrder, 0}, {"\x01\x02\x00\xff", api.ErrOrder, 0}, {"\x01\x00\x01A\x00", api.ErrOrder, 0},
		{"\x02\x02", api.ErrForm, 1}, {"\x02\xff\x00", api.ErrForm, 1}, {"\x02\x80\x03NAV\x00", api.ErrForm, 1},
		{"\x02\x00\x00", api.ErrName, 2}, {"\x02\x00\x11", api.ErrName, 2}, {"\x02\x00\x01a", api.ErrName, 2}, {"\x02\x01\x02A-\x11", api.ErrName, 2}, {"\x02\x01\x03_AV\x00", api.ErrName, 2},
		{"\x02\x00\x01A\x11", api.ErrMany, 4}, {"\x02\x00\x01A\xff\x02", api.ErrMany, 4},
		{"\x02\x00\x01A\x01\x02", api.ErrForm, 5}, {"\x02\x00\x01A\x01\xff\x00\x00\x00\x00", api.ErrForm, 5}, {"\x02\x00\x01A\x02\x01\x00\x00\x00\x00\x02", api.ErrForm, 10}, {"\x02\x00\x01A\x02\x00\x02\x02\x02\x02\x03\x00\x00\x00\x00", api.ErrForm, 10},
	} {
		refused(t, front+x.s, 3, x.k, len(front)+x.at)
	}
}

func TestReadEachByte(t *testing.T) { // P8.1: each byte of the bytes of some becomes each other one; each beginning of them
	whole := text(some[:5])
	for at := range len(whole) {
		for c := range 256 {
			held(t, whole[:at]+string([]byte{byte(c)})+whole[at+1:], 5)
		}
		held(t, whole[:at], 5)
	}
}

func TestReadCells(t *testing.T) { // P8.1: each count of cells, with cells for all, for some, for none
	one := "\x01\x00\x00\x00\x07"
	for n := range 256 {
		s := "\x09\x00\x01A" + string([]byte{byte(n)})
		for _, there := range []int{256, n, n - 1, 0} {
			held(t, s+strings.Repeat(one, max(there, 0)), 1)
		}
	}
}

func TestReadBehindWhatIsWrong(t *testing.T) { // P8.1: what was wrong first stays so
	for _, s := range []string{text(some), "", "\x00\x02"} {
		for _, n := range []int{-1, 0, 1, 6, math.MaxInt} {
			r := reader.New(s)
			r.Enter(6)
			r.Fail(api.ErrLength, 9)
			want := api.Fault{Error: api.ErrLength, Section: 6, At: 9}
			if l, e := Read(r, n); len(l) != 0 || fault.Of(e) != want || r.Fault() != want || r.Place() != 0 {
				t.Errorf("%q %d: %v %v", s, n, l, fault.Text(e))
			}
		}
	}
}

func TestReadTwice(t *testing.T) { // P8.1: each call's first partition has none ahead of it; the lists share nothing
	s := text(some)
	r := reader.New(s + s)
	a, e := Read(r, len(some))
	b, f := Read(r, len(some))
	if !same(a, some) || !same(b, some) || e != nil || f != nil || r.Left() != 0 {
		t.Error(a, b, e, f)
	}
	for i := range a {
		for j := range a[i].Cells {
			a[i].Cells[j].Value++
		}
		_ = append(a[i].Cells, api.Cell{Value: 99})
		a[i].Id++
	}
	if !same(b, some) {
		t.Error(b)
	}
}

func TestFind(t *testing.T) { // P8.1: the first one, in any order; where there is none, the place 0
	l := []api.Partition{{Id: 9, Name: "A"}, {Id: 3}, {Id: -4}, {Id: 3, Name: "B"}, {Id: math.MaxInt}, {Id: 9}}
	for id, at := range map[int]int{9: 0, 3: 1, -4: 2, math.MaxInt: 4} {
		if i, ok := Find(l, id); i != at || !ok {
			t.Error(id, i, ok)
		}
	}
	for _, id := range []int{0, 1, 4, -3, 8, 10, math.MinInt} {
		if i, ok := Find(l, id); i != 0 || ok {
			t.Error(id, i, ok)
		}
	}
	if i, ok := Find(nil, 0); i != 0 || ok {
		t.Error(i, ok)
	}
	for at, p := range some {
		if i, ok := Find(some, p.Id); i != at || !ok {
			t.Error(p.Id, i, ok)
		}
	}
}

func TestSame(t *testing.T) { // P8.1
	p := some[3]
	for i, a := range some {
		for j, b := range deep(some) {
			if Same(a, b) != (i == j) {
				t.Error(a, b)
			}
		}
	}
	for i, change := range []func(*api.Partition){
		func(p *api.Partition) { p.Id++ },
		func(p *api.Partition) { p.Id += 256 },
		func(p *api.Partition) { p.Name += "1" },
		func(p *api.Partition) { p.Name = "p_1" },
		func(p *api.Partition) { p.May = false },
		func(p *api.Partition) { p.Cells[0].Value ^= 1 << 31 },
		func(p *api.Partition) { p.Cells[2].Value++ },
		func(p *api.Partition) { p.Cells[2].Kept = true },
		func(p *api.Partition) { p.Cells[1].Kept = false },
		func(p *api.Partition) { p.Cells = p.Cells[:2] },
		func(p *api.Partition) { p.Cells = nil },
		func(p *api.Partition) { p.Cells = append(p.Cells, api.Cell{}) },
		func(p *api.Partition) { p.Cells[0], p.Cells[1] = p.Cells[1], p.Cells[0] },
	} {
		o := deep([]api.Partition{p})[0]
		if !Same(p, o) {
			t.Error(i, o)
		}
		if change(&o); Same(p, o) || Same(o, p) {
			t.Error(i, o)
		}
	}
	if !Same(api.Partition{Cells: []api.Cell{}}, api.Partition{}) || !Same(api.Partition{}, api.Partition{Cells: []api.Cell{}}) {
		t.Error("nil and empty cells are one")
	}
}

func TestClone(t *testing.T) { // P8.1: of any partitions, and nothing is shared, spare room neither
	room := make([]api.Cell, 2, 9)
	for _, l := range [][]api.Partition{nil, {}, some, some[1:2], {{Id: -1, Cells: manyCells(40)}, {Name: "a"}}, {{Cells: room[:1]}, {Cells: room[:0]}, {Cells: room}}} {
		given := deep(l)
		c := Clone(l)
		d := Clone(l)
		if !same(c, given) || !same(d, given) {
			t.Errorf("%v: %v", l, c)
		}
		for i := range c {
			_ = append(c[i].Cells, api.Cell{Value: 98})
			for j := range c[i].Cells {
				c[i].Cells[j].Value += 7
			}
			c[i].Cells = nil
			c[i].Id++
		}
		if !same(l, given) || !same(d, given) || room[:9][1] != (api.Cell{}) || room[:9][2] != (api.Cell{}) {
			t.Errorf("%v: %v", l, room[:9])
		}
	}
}

func TestCloneKeepsWhatItWas(t *testing.T) { // P8.1: what is changed behind the call is not seen
	l := deep(some)
	c := Clone(l)
	for i := range l {
		for j := range l[i].Cells {
			l[i].Cells[j].Kept = !l[i].Cells[j].Kept
		}
		l[i].Name = "OTHER"
	}
	if !same(c, some) {
		t.Error(c)
	}
}

func TestWhatIsPutIsRead(t *testing.T) { // P8.2: lists out of numbers, and the bytes of what is read
	x := uint64(7)
	next := func(n int) int {
		x = x*6364136223846793005 + 1442695040888963407
		return int(x>>33) % n
	}
	for range 3000 {
		var l []api.Partition
		for id := next(60); id < 256 && len(l) < 40; id += 1 + next(60) {
			p := api.Partition{Id: id, Name: name.Make(next(1 << 30)), May: next(2) == 1}
			for range next(17) {
				p.Cells = append(p.Cells, api.Cell{Value: uint32(next(1<<31)) * 2654435761, Kept: next(2) == 1})
			}
			l = append(l, p)
		}
		b, e := Put([]byte("CWM1"), l)
		if e != nil {
			t.Fatal(l, fault.Text(e))
		}
		r := reader.New(string(b))
		r.Text(4)
		got, e := Read(r, len(l))
		if e != nil || !same(got, l) || r.Left() != 0 {
			t.Fatal(l, got, fault.Text(e))
		}
		again, e := Put(nil, got)
		if e != nil || string(again) != string(b[4:]) {
			t.Fatalf("%q %q %v", again, b[4:], fault.Text(e))
		}
	}
}

func TestOfWhatIsReadTheseBytesArePut(t *testing.T) { // P8.2: of bytes that nearly are partitions
	x := uint64(11)
	next := func(n int) int {
		x = x*6364136223846793005 + 1442695040888963407
		return int(x>>33) % n
	}
	whole := text(some)
	read := 0
	for range 20000 {
		b := []byte(whole)
		for range 1 + next(2) {
			b[next(len(b))] = byte(next(256))
		}
		n := 1 + next(len(some)+1)
		held(t, string(b), n)
		r := reader.New(string(b))
		l, e := Read(r, n)
		if e != nil {
			continue
		}
		read++
		if again, e := Put(nil, l); e != nil || string(again) != string(b[:r.Place()]) {
			t.Fatalf("%q %q %v", b, again, fault.Text(e))
		}
	}
	if read < 1000 {
		t.Error(read)
	}
}
