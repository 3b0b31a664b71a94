package record

import (
	"encoding/binary"
	"hash/crc32"
	"math"
	"slices"
	"strings"
	"testing"

	"countwheel/api"
	"countwheel/check"
	"countwheel/crew"
	"countwheel/fault"
	"countwheel/image"
	"countwheel/kernel"
	"countwheel/script"
)

// end is the greatest time.
const end = math.MaxUint64

// odd are numbers that no kind, schedule, mode or cell has.
var odd = []int{math.MinInt, -1 << 33, -256, -2, -1, 256, 257, 1 << 31, 1 << 32, 1<<32 + 1, 1 << 62, math.MaxInt}

// ruled is a row of numbers that a rule makes, each of which is below what it is asked with.
func ruled(x uint64) func(n int) int {
	return func(n int) int {
		x = x*6364136223846793005 + 1442695040888963407
		return int(x>>33) % n
	}
}

// smallest is a module of as little as may be.
func smallest() api.Module {
	return api.Module{Parts: []api.Partition{{Name: "A"}}, Schedules: []api.Schedule{{Frame: 1}}}
}

// usual is a module of two schedules: the partition 3 may, 5 may not; in 1 the ticks are 3 3 5 -, in 2 they are 5 3.
func usual() api.Module {
	return api.Module{
		Epoch: 100,
		First: 1,
		Parts: []api.Partition{
			{Id: 3, Name: "A", May: true, Cells: []api.Cell{{Value: 7}}},
			{Id: 5, Name: "B", Cells: []api.Cell{{Value: 1}, {Value: 2, Kept: true}}},
		},
		Schedules: []api.Schedule{
			{Id: 1, Frame: 4, Windows: []api.Window{{Id: 3, Length: 2}, {Id: 5, Offset: 2, Length: 1}}},
			{Id: 2, Frame: 2, Windows: []api.Window{{Id: 5, Length: 1}, {Id: 3, Offset: 1, Length: 1}}},
		},
		Pairs: []api.Pair{{From: 1, To: 2}, {From: 2, To: 1}},
		Acts:  []api.Act{{Schedule: 1, Partition: 3, Action: 2}, {Schedule: 2, Partition: 5, Action: 1}},
	}
}

// greatest is a valid module of as much as may be.
func greatest() api.Module {
	m := api.Module{Epoch: end - 1<<30, First: 255}
	for i := range api.MaxParts {
		p := api.Partition{Id: 255 - 8*(api.MaxParts-1-i), Name: strings.Repeat(string(rune('A'+i%26)), 15) + string(rune('A'+i/26)), May: i%2 == 0, Cells: make([]api.Cell, api.MaxCells)}
		m.Parts = append(m.Parts, p)
	}
	for i := range api.MaxScheds {
		x := api.Schedule{Id: 15 + 16*i, Frame: api.MaxFrame}
		for j := range api.MaxWindows {
			x.Windows = append(x.Windows, api.Window{Id: m.Parts[j%api.MaxParts].Id, Offset: 4096 * j, Length: 4096})
		}
		for _, p := range m.Parts {
			x.Needs = append(x.Needs, api.Need{Id: p.Id, Period: api.MaxFrame, Budget: 8 * 4096})
		}
		m.Schedules = append(m.Schedules, x)
		for _, p := range m.Parts {
			m.Acts = append(m.Acts, api.Act{Schedule: x.Id, Partition: p.Id, Action: 1 + len(m.Acts)%2})
		}
		for j := range api.MaxScheds {
			if j != i {
				m.Pairs = append(m.Pairs, api.Pair{From: x.Id, To: 15 + 16*j})
			}
		}
	}
	return m
}

// mixed is a valid module.
func mixed(t *testing.T, next func(n int) int) api.Module {
	t.Helper()
	m := api.Module{Epoch: uint64(next(1000))}
	if next(3) == 0 {
		m.Epoch = end - uint64(next(60))
	}
	id := next(3)
	for i := range 1 + next(4) {
		p := api.Partition{Id: id, Name: string(rune('A' + i)), May: next(3) > 0}
		for range next(3) {
			p.Cells = append(p.Cells, api.Cell{Value: uint32(next(9)), Kept: next(2) > 0})
		}
		m.Parts = append(m.Parts, p)
		id += 1 + next(5)
	}
	id = next(3)
	for range 1 + next(4) {
		x := api.Schedule{Id: id, Frame: 1 + next(9)}
		for at := next(3); at < x.Frame; at += next(2) * next(3) {
			w := api.Window{Id: m.Parts[next(len(m.Parts))].Id, Offset: at, Length: min(1+next(4), x.Frame-at)}
			x.Windows = append(x.Windows, w)
			at += w.Length
		}
		m.Schedules = append(m.Schedules, x)
		id += 1 + next(3)
	}
	m.First = m.Schedules[next(len(m.Schedules))].Id
	for _, a := range m.Schedules {
		for _, b := range m.Schedules {
			if a.Id != b.Id && next(3) > 0 {
				m.Pairs = append(m.Pairs, api.Pair{From: a.Id, To: b.Id})
			}
		}
		for _, p := range m.Parts {
			if next(2) > 0 {
				m.Acts = append(m.Acts, api.Act{Schedule: a.Id, Partition: p.Id, Action: 1 + next(2)})
			}
		}
	}
	if e := check.Module(m); e != nil {
		t.Fatal(m, e)
	}
	return m
}

// step is any that a script can have.
func step(next func(n int) int) api.Step {
	switch next(9) {
	case 0, 1, 2, 3:
		return api.Step{}
	case 4:
		return api.Step{Kind: api.GetStatus}
	case 5:
		return api.Step{Kind: api.SetMode, Arg: []int{0, 1, 1, 2, 2, 3, 3, 3}[next(8)]}
	case 6:
		return api.Step{Kind: api.ReadCell, Arg: next(3) * next(3)}
	case 7:
		return api.Step{Kind: api.WriteCell, Arg: next(3), Value: uint32(next(1 << 30))}
	}
	return api.Step{Kind: api.SetSched, Arg: next(12)}
}

// unfit are steps that no script can have.
func unfit() []api.Step {
	l := []api.Step{
		{Arg: 1}, {Value: 1}, {Kind: 1, Arg: 256}, {Kind: 1, Value: 1}, {Kind: 2, Arg: 1}, {Kind: 2, Value: 1},
		{Kind: 3, Arg: 4}, {Kind: 3, Value: 1}, {Kind: 4, Arg: 256}, {Kind: 4, Value: 1}, {Kind: 5, Arg: 256}, {Kind: 6}, {Kind: -1},
	}
	for _, n := range odd {
		if n < 0 || n > 5 {
			l = append(l, api.Step{Kind: n})
		}
		for kind := range 6 {
			l = append(l, api.Step{Kind: kind, Arg: n})
		}
	}
	return l
}

// fresh is a record of no steps.
func fresh(t *testing.T, m api.Module) *Record {
	t.Helper()
	r, e := New(m)
	if r == nil || e != nil {
		t.Fatal(m, e)
	}
	return r
}

// done is a record of steps.
func done(t *testing.T, m api.Module, l []api.Step) *Record {
	t.Helper()
	r := fresh(t, m)
	for _, x := range l {
		if _, k := r.Do(x); k != api.OK {
			t.Fatal(m, x, k)
		}
	}
	return r
}

// kernels tells whether two are one, by all that they tell.
func kernels(a, b *kernel.Kernel) bool {
	return a.Now() == b.Now() && a.Halted() == b.Halted() && a.Owner() == b.Owner() && a.Offset() == b.Offset() &&
		a.Frames() == b.Frames() && a.Status() == b.Status() && crew.Same(a.Shots(), b.Shots()) &&
		slices.Equal(a.Did(), b.Did()) && image.Same(a.Module(), b.Module())
}

// is holds a record against a module and steps, twice: to ask changes nothing.
func is(t *testing.T, r *Record, m api.Module, l []api.Step) {
	t.Helper()
	k, e := kernel.New(m)
	if e != nil {
		t.Fatal(m, e)
	}
	k.Run(l)
	for range 2 {
		if !slices.Equal(r.Steps(), l) || !kernels(r.Kernel(), k) {
			t.Fatal(m, r.Steps(), l, r.Kernel(), k)
		}
		if s := r.Bytes(); s != text(t, m, l) {
			t.Fatalf("%x, %x", s, text(t, m, l))
		}
	}
}

// framed are bytes of two texts as a record has them, with their sum.
func framed(module, steps string) string {
	b := []byte{0x43, 0x57, 0x52, 0x31}
	b = binary.BigEndian.AppendUint32(b, uint32(len(module)))
	b = append(b, module...)
	b = binary.BigEndian.AppendUint32(b, uint32(len(steps)))
	b = append(b, steps...)
	return string(binary.BigEndian.AppendUint32(b, crc32.ChecksumIEEE(b)))
}

// parts are a module's bytes, and a script.
func parts(t *testing.T, m api.Module, l []api.Step) (string, string) {
	t.Helper()
	module, e := image.Encode(m)
	steps, f := script.Print(l)
	if e != nil || f != nil {
		t.Fatal(m, l, e, f)
	}
	return module, steps
}

// text is a record's bytes.
func text(t *testing.T, m api.Module, l []api.Step) string {
	t.Helper()
	return framed(parts(t, m, l))
}

// resealed is bytes, the last four of which are made the sum.
func resealed(s string) string {
	if len(s) < 4 {
		return s
	}
	b := []byte(s[:len(s)-4])
	return string(binary.BigEndian.AppendUint32(b, crc32.ChecksumIEEE(b)))
}

// at is the text of an error of a class at a place.
func at(place int, k api.Errno) string { return fault.Text(fault.At(place, fault.New(k))) }

// told is what Get is to tell of bytes: the text of what is wrong (none: nothing is), the module, the steps.
func told(s string) (string, api.Module, []api.Step) {
	fields, place := []string{}, 4
	for i, c := range "CWR1" {
		if len(s) <= i {
			return at(i, api.ErrShort), api.Module{}, nil
		}
		if s[i] != byte(c) {
			return at(i, api.ErrMagic), api.Module{}, nil
		}
	}
	for range 2 {
		if len(s) < place+4 {
			return at(place, api.ErrShort), api.Module{}, nil
		}
		n := int(binary.BigEndian.Uint32([]byte(s[place:])))
		place += 4
		if len(s) < place+n {
			return at(place, api.ErrShort), api.Module{}, nil
		}
		fields = append(fields, s[place:place+n])
		place += n
	}
	switch {
	case len(s) < place+4:
		return at(place, api.ErrShort), api.Module{}, nil
	case len(s) > place+4:
		return at(place+4, api.ErrLength), api.Module{}, nil
	case binary.BigEndian.Uint32([]byte(s[place:])) != crc32.ChecksumIEEE([]byte(s[:place])):
		return at(place, api.ErrSum), api.Module{}, nil
	}
	m, e := check.Load(fields[0])
	if e != nil {
		return fault.Text(e), api.Module{}, nil
	}
	l, e := script.Parse(fields[1])
	if e != nil {
		return fault.Text(e), api.Module{}, nil
	}
	if p, _ := script.Print(l); p != fields[1] {
		return at(place-len(fields[1]), api.ErrForm), api.Module{}, nil
	}
	return "", m, l
}

// got holds what Get tells of bytes against what it is to tell, and is whether there is a record.
func got(t *testing.T, s string) bool {
	t.Helper()
	want, m, l := told(s)
	r, e := Get(s)
	if fault.Text(e) != want || (e == nil) != (want == "") || (r == nil) != (e != nil) {
		t.Fatalf("%x: %v, %s", s, e, want)
	}
	if r == nil {
		return false
	}
	is(t, r, m, l)
	if r.Bytes() != s { // P31.2
		t.Fatalf("%x, %x", r.Bytes(), s)
	}
	return true
}

func TestExample(t *testing.T) { // P31.1
	r, e := Get("")
	if r != nil || fault.Text(e) != "at 0: short" || fault.Of(e) != (api.Fault{Error: api.ErrShort}) {
		t.Error(r, e)
	}
}

func TestWrittenOut(t *testing.T) { // P31.1
	module := "CWM1" + "\x00\x00\x00\x28" + "\x00\x00\x00\x00\x00\x00\x00\x00" + "\x00" + "\x01\x01\x00\x00\x00\x00" + "\x00\x00\x01A\x00" + "\x00\x00\x00\x00\x01\x00\x00\x00"
	module += string(binary.BigEndian.AppendUint32(nil, crc32.ChecksumIEEE([]byte(module))))
	for _, x := range []struct {
		l    []api.Step
		text string
	}{
		{nil, "\x00\x00\x00\x00"},
		{[]api.Step{{}}, "\x00\x00\x00\x07tick 1\n"},
		{[]api.Step{{}, {}, {Kind: 5, Arg: 1, Value: 300}, {}}, "\x00\x00\x00\x1atick 2\nwrite 1 300\ntick 1\n"},
		{[]api.Step{{Kind: 1}, {Kind: 2}, {Kind: 3, Arg: 3}, {Kind: 4, Arg: 255}}, "\x00\x00\x00\x22set 0\nstatus\nmode normal\nread 255\n"},
	} {
		m := smallest()
		r := done(t, m, x.l)
		b := "CWR1" + "\x00\x00\x00\x28" + module + x.text
		b += string(binary.BigEndian.AppendUint32(nil, crc32.ChecksumIEEE([]byte(b))))
		if r.Bytes() != b {
			t.Errorf("%x, %x", r.Bytes(), b)
		}
		is(t, r, m, x.l)
		q, e := Get(b)
		if e != nil || !Same(q, r) {
			t.Error(e)
		}
	}
}

func TestNew(t *testing.T) { // P31.1
	for _, m := range []api.Module{smallest(), usual(), greatest()} {
		r := fresh(t, m)
		is(t, r, m, nil)
	}
	for i, wear := range []func(m *api.Module){
		func(m *api.Module) { *m = api.Module{} },
		func(m *api.Module) { m.First = 3 },
		func(m *api.Module) { m.Parts[1].Id = 3 },
		func(m *api.Module) { m.Schedules[1].Windows[1].Offset = 0 },
		func(m *api.Module) { m.Pairs[1].To = 2 },
		func(m *api.Module) { m.Acts[1].Action = 0 },
	} {
		m := usual()
		wear(&m)
		_, want := kernel.New(m)
		r, e := New(m)
		if want == nil || r != nil || fault.Text(e) != fault.Text(want) {
			t.Error(i, e, want)
		}
	}
	m := usual()
	m.Schedules[1].Windows[1].Offset = 0
	if _, e := New(m); fault.Text(e) != "section 3: at 1: at 1: overlap" {
		t.Error(e)
	}
}

func TestDo(t *testing.T) { // P31.1
	r := fresh(t, usual())
	for i, x := range []struct {
		x   api.Step
		out api.Out
	}{
		{api.Step{Kind: api.SetSched, Arg: 2}, api.Out{Kind: 1, Owner: 3}},
		{api.Step{Kind: api.GetStatus}, api.Out{Kind: 2, Owner: 3, Status: api.Status{Current: 1, Next: 2}}},
		{api.Step{}, api.Out{Owner: 3}},
		{api.Step{Kind: api.ReadCell}, api.Out{Kind: 4, Owner: 3, Value: 7}},
		{api.Step{}, api.Out{Owner: 3}},
		{api.Step{Kind: api.SetSched, Arg: 1}, api.Out{Kind: 1, Owner: 5, Code: api.InvalidConfig}},
		{api.Step{Kind: api.WriteCell, Arg: 255, Value: math.MaxUint32}, api.Out{Kind: 5, Owner: 5, Code: api.InvalidParam}},
		{api.Step{Kind: api.WriteCell, Arg: 1, Value: math.MaxUint32}, api.Out{Kind: 5, Owner: 5}},
		{api.Step{}, api.Out{Owner: 5}},
		{api.Step{Kind: api.GetStatus}, api.Out{Kind: 2, Owner: -1, Code: api.NotAvailable}},
		{api.Step{}, api.Out{Owner: -1}},
		{api.Step{Kind: api.ReadCell, Arg: 1}, api.Out{Kind: 4, Owner: 5, Value: math.MaxUint32}},
		{api.Step{Kind: api.SetMode, Arg: api.Idle}, api.Out{Kind: 3, Owner: 5}},
		{api.Step{Kind: api.GetStatus}, api.Out{Kind: 2, Owner: 5, Code: api.InvalidMode}},
	} {
		// Also what answers another Code is a step that was done.
		if out, k := r.Do(x.x); k != api.OK || out != x.out || len(r.Steps()) != i+1 || r.Steps()[i] != x.x {
			t.Error(i, x, out, k)
		}
	}
	if k := r.Kernel(); k.Now() != 104 || k.Status() != (api.Status{Last: 104, Current: 2, Next: 2}) || k.Shots()[1].Cells[1] != math.MaxUint32 {
		t.Error(k)
	}
}

func TestDoHalted(t *testing.T) { // P31.1: also steps of a halted clock are steps
	m := usual()
	m.Epoch = end - 1
	r := fresh(t, m)
	for i, want := range []api.Out{{Owner: 3}, {Owner: -1, Code: 2}, {Owner: -1, Code: 2}} {
		if out, k := r.Do(api.Step{}); out != want || k != api.OK || len(r.Steps()) != i+1 {
			t.Error(i, out, k)
		}
	}
	is(t, r, m, make([]api.Step, 3))
}

func TestDoRefuses(t *testing.T) { // P31.1: what no script can have changes nothing
	l := []api.Step{{}, {Kind: 5, Value: 3}}
	r := done(t, usual(), l)
	for _, x := range unfit() {
		if out, k := r.Do(x); out != (api.Out{}) || k != api.ErrForm {
			t.Fatal(x, out, k)
		}
	}
	is(t, r, usual(), l)
}

func TestDoMany(t *testing.T) { // P31.1: MaxSteps, and no more
	l := make([]api.Step, api.MaxSteps)
	for i := range l {
		if i%3 == 0 {
			l[i] = api.Step{Kind: 5, Arg: i % 2, Value: uint32(i) * 65537}
		}
	}
	for _, l := range [][]api.Step{l, make([]api.Step, api.MaxSteps)} {
		r := done(t, usual(), l[:len(l)-1])
		if _, k := r.Do(api.Step{Kind: 6}); k != api.ErrForm {
			t.Error(k)
		}
		if _, k := r.Do(l[len(l)-1]); k != api.OK {
			t.Error(k)
		}
		for _, x := range []api.Step{{}, {Kind: 1, Arg: 2}, {Kind: 5, Value: 3}} {
			if out, k := r.Do(x); out != (api.Out{}) || k != api.ErrMany {
				t.Error(x, out, k)
			}
		}
		for _, x := range unfit() {
			if out, k := r.Do(x); out != (api.Out{}) || k != api.ErrForm {
				t.Error(x, out, k)
			}
		}
		is(t, r, usual(), l)
		q, e := Get(r.Bytes())
		if e != nil || !Same(q, r) {
			t.Fatal(e)
		}
		if _, k := q.Do(api.Step{}); k != api.ErrMany {
			t.Error(k)
		}
		b, k := q.Back(api.MaxSteps)
		if k != api.OK || !Same(b, r) {
			t.Error(k)
		}
		if _, k := b.Do(api.Step{}); k != api.ErrMany {
			t.Error(k)
		}
		b, _ = q.Back(api.MaxSteps - 1)
		if _, k := b.Do(api.Step{}); k != api.OK || len(b.Steps()) != api.MaxSteps {
			t.Error(k)
		}
	}
}

func TestModel(t *testing.T) { // P31.1: behind any calls
	next := ruled(1)
	for range 300 {
		m := mixed(t, next)
		r, k := fresh(t, m), fresh(t, m).Kernel()
		var l []api.Step
		for range next(60) {
			switch next(8) {
			case 0:
				x := unfit()[next(len(unfit()))]
				if out, k := r.Do(x); out != (api.Out{}) || k != api.ErrForm {
					t.Fatal(x, out, k)
				}
			case 1:
				is(t, r, m, l)
			case 2:
				r.Kernel().Do(step(next)) // a Copy: it is another one
			case 3:
				n := next(len(l) + 1)
				b, e := r.Back(n)
				if e != api.OK {
					t.Fatal(n, e)
				}
				is(t, b, m, l[:n])
				if next(4) == 0 { // go on from there
					r, l = b, slices.Clone(l[:n])
					k = done(t, m, l).Kernel()
				}
			case 4:
				q, e := Get(r.Bytes())
				if e != nil {
					t.Fatal(e)
				}
				r = q
			default:
				x := step(next)
				out, e := r.Do(x)
				if want := k.Do(x); e != api.OK || out != want {
					t.Fatal(x, out, e, want)
				}
				l = append(l, x)
			}
		}
		is(t, r, m, l)
	}
}

func TestBack(t *testing.T) { // P31.1
	l := []api.Step{{Kind: 1, Arg: 2}, {}, {Kind: 5, Value: 9}, {}, {}, {}, {}, {Kind: 4}}
	r := done(t, usual(), l)
	for n := range len(l) + 1 {
		b, k := r.Back(n)
		if k != api.OK {
			t.Fatal(n, k)
		}
		is(t, b, usual(), l[:n])
		b.Do(api.Step{Kind: 2})
		b.Do(api.Step{})
		is(t, b, usual(), append(slices.Clone(l[:n]), api.Step{Kind: 2}, api.Step{}))
		is(t, r, usual(), l)
	}
	for _, n := range append(slices.Clone(odd), -1, len(l)+1, len(l)+2, api.MaxSteps) {
		if b, k := r.Back(n); b != nil || k != api.ErrRange {
			t.Error(n, b, k)
		}
	}
	is(t, r, usual(), l)
	if b, k := fresh(t, usual()).Back(1); b != nil || k != api.ErrRange {
		t.Error(b, k)
	}
	if b, k := fresh(t, usual()).Back(0); k != api.OK || !Same(b, fresh(t, usual())) {
		t.Error(k)
	}
}

func TestSame(t *testing.T) { // P31.1: one module, and the same steps
	changes := []func(m *api.Module){
		func(m *api.Module) {},
		func(m *api.Module) { m.Epoch++ },
		func(m *api.Module) { m.First = 2 },
		func(m *api.Module) { m.Parts[0].Name = "C" },
		func(m *api.Module) { m.Parts[0].May = false },
		func(m *api.Module) { m.Parts[1].Cells[1].Kept = false },
		func(m *api.Module) { m.Parts[0].Cells[0].Value++ },
		func(m *api.Module) { m.Parts = append(m.Parts, api.Partition{Id: 6, Name: "C"}) },
		func(m *api.Module) { m.Schedules[0].Frame++ },
		func(m *api.Module) { m.Schedules[0].Windows[1].Length++ },
		func(m *api.Module) { m.Schedules[1].Needs = []api.Need{{Id: 3, Period: 2, Budget: 1}} },
		func(m *api.Module) { m.Pairs = m.Pairs[:1] },
		func(m *api.Module) { m.Acts[0].Action = 1 },
	}
	rows := [][]api.Step{
		nil, {{}}, {{}, {}}, {{Kind: 2}}, {{Kind: 2}, {}}, {{}, {Kind: 2}}, {{Kind: 5}}, {{Kind: 5, Value: 1}}, {{Kind: 5, Arg: 1}}, {{Kind: 4}},
	}
	var l []*Record
	for _, change := range changes {
		m := usual()
		change(&m)
		for _, x := range rows {
			l = append(l, done(t, m, x))
		}
	}
	for i, a := range l {
		for j, b := range l {
			if Same(a, b) != (i == j) {
				t.Fatal(i, j)
			}
		}
	}
	m := usual()
	m.Schedules[0].Needs, m.Schedules[1].Needs = []api.Need{}, []api.Need{}
	if !Same(done(t, m, nil), done(t, usual(), nil)) || !Same(done(t, m, []api.Step{{}}), done(t, usual(), []api.Step{{}})) {
		t.Error("not the same")
	}
}

func TestGetCut(t *testing.T) { // P31.1: each beginning of bytes; what isn't all there
	for _, l := range [][]api.Step{nil, {{}, {Kind: 2}}} {
		s := text(t, smallest(), l)
		for i := range s {
			place := i // of the first four
			switch {
			case i >= len(s)-4:
				place = len(s) - 4
			case i >= 52:
				place = 52
			case i >= 48:
				place = 48
			case i >= 8:
				place = 8
			case i >= 4:
				place = 4
			}
			if _, e := Get(s[:i]); fault.Of(e) != (api.Fault{Error: api.ErrShort, At: place}) {
				t.Error(i, place, e)
			}
			got(t, s[:i])
			got(t, resealed(s[:i]))
		}
		for i := range 20 {
			longer := s + strings.Repeat("\x00", i+1)
			if _, e := Get(longer); fault.Of(e) != (api.Fault{Error: api.ErrLength, At: len(s)}) {
				t.Error(i, e)
			}
			got(t, resealed(longer))
		}
		got(t, s+s)
	}
}

func TestGetEachByte(t *testing.T) { // P31.1, P31.2: each byte each other one, as it is, and with its sum
	for _, s := range []string{text(t, smallest(), []api.Step{{}, {}, {Kind: 3, Arg: 3}, {}}), text(t, usual(), []api.Step{{Kind: 1, Arg: 2}, {Kind: 5, Value: 10}})} {
		records := 0
		for i := range s {
			for c := range 256 {
				b := []byte(s)
				b[i] = byte(c)
				if got(t, string(b)) != (string(b) == s) {
					t.Fatal(i, c)
				}
				if got(t, resealed(string(b))) {
					records++
				}
			}
		}
		// As each byte is itself once, more than these are got.
		if records < len(s)+20 {
			t.Error(records)
		}
	}
}

func TestGetMagic(t *testing.T) { // P31.1: the first of the first four bytes, ahead of all else
	for i := range 4 {
		for _, behind := range []string{"", "\x00", "CWR1", text(t, smallest(), nil)} {
			s := "CWR1"[:i] + "x" + behind
			if _, e := Get(s); fault.Of(e) != (api.Fault{Error: api.ErrMagic, At: i}) {
				t.Error(s, e)
			}
		}
		if _, e := Get("CWR1"[:i]); fault.Of(e) != (api.Fault{Error: api.ErrShort, At: i}) {
			t.Error(i, e)
		}
	}
	for _, s := range []string{"CWM1", "cwr1", "CWR2", "CWRl", "\x00\x00\x00\x00"} {
		got(t, s+text(t, smallest(), nil)[4:])
	}
	if _, e := Get("CWR1"); fault.Of(e) != (api.Fault{Error: api.ErrShort, At: 4}) {
		t.Error(e)
	}
}

func TestGetLengths(t *testing.T) { // P31.1: each number may be any
	s := text(t, smallest(), []api.Step{{}, {}})
	for _, place := range []int{4, 48} {
		right := binary.BigEndian.Uint32([]byte(s[place:]))
		for _, n := range []uint32{0, 1, right - 1, right + 1, right + 3, right + 4, right + 5, right + 8, right + 15, right + 16, 1 << 8, 1 << 16, 1 << 24, 1<<31 - 1, 1 << 31, math.MaxUint32 - 8, math.MaxUint32} {
			b := []byte(s)
			binary.BigEndian.PutUint32(b[place:], n)
			got(t, string(b))
			got(t, resealed(string(b)))
			if int(n) > len(s) {
				if _, e := Get(string(b)); fault.Of(e) != (api.Fault{Error: api.ErrShort, At: place + 4}) {
					t.Error(place, n, e)
				}
			}
		}
	}
}

func TestGetOrder(t *testing.T) { // P31.1: where several are wrong, the first of them
	module, steps := parts(t, smallest(), []api.Step{{}, {}})
	broken := "x" + module[1:]
	for _, x := range []struct{ s, text string }{
		{framed(module, steps), ""},
		// The module's error, as it was wrapped, ahead of the script's.
		{framed("", steps), "section 1: at 0: short"},
		{framed(broken, steps), "section 1: at 0: magic"},
		{framed(broken, "x"), "section 1: at 0: magic"},
		{framed(module[:20], "tick 1\ntick 1\n"), "section 1: at 19: short"},
		{framed(module+"x", ""), "section 1: at 4: length"},
		{framed(image.Seal(module[:39]), ""), "section 3: at 35: short"},
		{framed(module, "x"), "at 0: form"},
		{framed(module, "tick 1\nstatus\nx\n"), "at 2: form"},
		{framed(module, "tick 1"), "at 0: form"},
		{framed(module, "\n"), "at 0: form"},
		{framed(module, "tick 65536\nstatus\n"), "at 1: many"},
		{framed(module, "tick 65535\nstatus\ntick 1\n"), "at 2: many"},
		// Not in its form: at the script's place.
		{framed(module, "tick 1\ntick 1\n"), "at 52: form"},
		{framed(module, "status\ntick 1\ntick 2\nstatus\n"), "at 52: form"},
		{framed(module, "tick 65535\ntick 1\n"), "at 52: form"},
		{framed(module, "tick 65536\n"), ""},
		{framed(module, "tick 2\nstatus\ntick 3\n"), ""},
		// Of all these the sum ahead.
		{turned(framed(broken, "x")), "at 53: sum"},
		{turned(framed(module, "tick 1\ntick 1\n")), "at 66: sum"},
		{turned(framed("", "")), "at 12: sum"},
		// And ahead of the sum what is left.
		{turned(framed(broken, "x")) + "x", "at 57: length"},
		{framed(module, steps) + "x", "at 63: length"},
	} {
		r, e := Get(x.s)
		if fault.Text(e) != x.text || (r == nil) != (x.text != "") {
			t.Error(x.text, e)
		}
		got(t, x.s)
	}
	m := usual()
	m.First = 7
	s, _ := image.Encode(m)
	if _, e := Get(framed(s, "x")); fault.Of(e) != (api.Fault{Error: api.ErrRef, Section: 1}) || fault.Text(e) != fault.Text(check.Module(m)) {
		t.Error(e)
	}
	if _, e := Get(framed(module, "x")); fault.Depth(e) != 1 {
		t.Error(e)
	}
}

// turned is bytes whose last one is another.
func turned(s string) string { return s[:len(s)-1] + string([]byte{s[len(s)-1] ^ 0x80}) }

func TestGetWorn(t *testing.T) { // P31.1, P31.2: many records' bytes, some of them turned, cut out or put in
	next := ruled(2)
	records, refused := 0, 0
	for range 3000 {
		var l []api.Step
		for range next(12) {
			l = append(l, step(next))
		}
		module, steps := parts(t, mixed(t, next), l)
		steps = wear(steps, next)
		if next(4) == 0 {
			module = image.Seal(wear(module, next))
		}
		s := framed(module, steps)
		if next(3) == 0 {
			s = wear(s, next)
		}
		if next(3) == 0 {
			s = resealed(s)
		}
		if got(t, s) {
			records++
		} else {
			refused++
		}
	}
	if records < 500 || refused < 500 {
		t.Error(records, refused)
	}
}

// wear is a text with a few bytes that are others, that aren't there, or that are there too.
func wear(s string, next func(n int) int) string {
	b := []byte(s)
	for range next(3) {
		i := next(len(b) + 1)
		c := "0123456789 \ntickseamodwr\x00\xff"[next(26)]
		switch next(4) {
		case 0:
			b = slices.Insert(b, i, c)
		case 1:
			if i < len(b) {
				b[i] = c
			}
		case 2:
			b = slices.Delete(b, i, min(i+1, len(b)))
		default:
			b = slices.Insert(b, i, []byte("tick 1\n")...)
		}
	}
	return string(b)
}

func TestGetAnyBytes(t *testing.T) { // P31.1: bytes of no rule, also behind a beginning that may be
	next := ruled(3)
	for range 3000 {
		b := make([]byte, next(40))
		for i := range b {
			b[i] = byte(next(256)) * byte(next(2))
		}
		got(t, string(b))
		got(t, "CWR1"+string(b))
		got(t, resealed("CWR1"+string(b)))
		got(t, framed(string(b), ""))
	}
}

func TestGetOfBytes(t *testing.T) { // P31.2: the record, with its kernel as it was, that goes on as it does
	next := ruled(4)
	for range 300 {
		m := mixed(t, next)
		var l []api.Step
		for range next(100) {
			l = append(l, step(next))
		}
		r := done(t, m, l)
		s := r.Bytes()
		q, e := Get(s)
		if e != nil || q == r || !Same(q, r) || !Same(r, q) || !kernels(q.Kernel(), r.Kernel()) || q.Bytes() != s {
			t.Fatal(m, l, e)
		}
		is(t, q, m, l)
		for range 30 {
			x := step(next)
			a, i := r.Do(x)
			b, j := q.Do(x)
			if a != b || i != j || !kernels(q.Kernel(), r.Kernel()) {
				t.Fatal(m, l, x, a, b)
			}
		}
		// What was told stays as it was.
		if again, e := Get(s); e != nil || !slices.Equal(again.Steps(), l) {
			t.Fatal(m, l, e)
		}
	}
}

func TestGreatest(t *testing.T) { // P31.1, P31.2: a module of as much as may be, and as long a script as may be
	m := greatest()
	var l []api.Step
	for i := range api.MaxSteps {
		l = append(l, api.Step{Kind: api.WriteCell, Arg: 255 - i%2, Value: math.MaxUint32 - uint32(i)})
	}
	r := done(t, m, l)
	is(t, r, m, l)
	if !got(t, r.Bytes()) {
		t.Error("refused")
	}
}

func TestNothingShared(t *testing.T) { // P31.1: what is handed in isn't kept, what is told is new
	m := usual()
	cells := append(m.Parts[0].Cells, api.Cell{Value: 77})
	m.Parts[0].Cells = cells[:1]
	l := []api.Step{{Kind: 5, Value: 4}, {}, {}, {}}
	r := done(t, m, l)
	b, _ := r.Back(2)
	q, _ := Get(r.Bytes())
	clear(m.Parts[0].Cells)
	clear(m.Parts)
	clear(m.Schedules[0].Windows)
	clear(m.Schedules)
	clear(m.Pairs)
	clear(m.Acts)
	for _, x := range []*Record{r, b, q} {
		s := x.Steps()
		clear(s)
		_ = append(s[:1], api.Step{Kind: 2})
		k := x.Kernel()
		k.Do(api.Step{Kind: 1, Arg: 2})
		k.Do(api.Step{Kind: 5, Value: 5})
		k.Run(make([]api.Step, 5))
		other := k.Module()
		clear(other.Parts[0].Cells)
		clear(other.Schedules)
	}
	is(t, r, usual(), l)
	is(t, b, usual(), l[:2])
	is(t, q, usual(), l)
	if cells[1].Value != 77 {
		t.Error(cells)
	}
	// A kernel that was told, and steps that were, stay as they were.
	k, s := r.Kernel(), r.Steps()
	r.Do(api.Step{})
	if k.Now() != 103 || len(s) != 4 || r.Kernel().Now() != 104 {
		t.Error(k.Now(), s)
	}
	// Records that were cut off at one place go on each for itself.
	c, _ := r.Back(2)
	d, _ := r.Back(2)
	c.Do(api.Step{Kind: 2})
	d.Do(api.Step{Kind: 4})
	is(t, c, usual(), append(slices.Clone(l[:2]), api.Step{Kind: 2}))
	is(t, d, usual(), append(slices.Clone(l[:2]), api.Step{Kind: 4}))
	is(t, r, usual(), append(slices.Clone(l), api.Step{}))
}
