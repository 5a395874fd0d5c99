package vm_test

import (
	"math/rand"
	"slices"
	"strings"
	"testing"

	"castellan/api"
	"castellan/isa"
	"castellan/mem"
	"castellan/vm"
)

var (
	ran     = api.Event{Kind: api.VmRan}
	stopped = api.Event{Kind: api.VmStopped}
)

func called(n int) api.Event { return api.Event{Kind: api.VmCalled, Number: n} }

func memoryOf(t *testing.T, frames int) *mem.Memory {
	t.Helper()
	m, e := mem.New(frames)
	if e != api.OK {
		t.Fatalf("mem.New(%d): %d", frames, e)
	}
	return m
}

// pages are a table of such pages: of each one its frame, and its rights.
func pages(numbers ...int) []api.Page {
	t := make([]api.Page, len(numbers)/2)
	for i := range t {
		t[i] = api.Page{Frame: numbers[2*i], Rights: numbers[2*i+1]}
	}
	return t
}

// program is the bytes of some lines.
func program(t *testing.T, lines ...string) string {
	t.Helper()
	s, n, e := isa.Assemble(strings.Join(lines, "\n"))
	if e != api.OK {
		t.Fatalf("line %d of %q: %d", n, lines, e)
	}
	return s
}

func lay(t *testing.T, m *mem.Memory, f, at int, s string) {
	t.Helper()
	if e := m.Lay(f, at, s); e != api.OK {
		t.Fatalf("Lay(%d, %d, %d bytes): %d", f, at, len(s), e)
	}
}

// loaded is a memory of one frame that has the program of some lines, and a table of it with all rights.
func loaded(t *testing.T, lines ...string) (*mem.Memory, []api.Page) {
	t.Helper()
	m := memoryOf(t, 1)
	lay(t, m, 0, 0, program(t, lines...))
	return m, pages(0, 7)
}

func wantSteps(t *testing.T, m *vm.Machine, memory *mem.Memory, table []api.Page, events ...api.Event) {
	t.Helper()
	for n, want := range events {
		if got := m.Step(memory, table); got != want {
			t.Errorf("step %d: %v, not %v", n, got, want)
		}
	}
}

func wantAnswer(t *testing.T, m *vm.Machine, l []int, e api.Errno) {
	t.Helper()
	if got := m.Answer(l); got != e {
		t.Errorf("Answer(%v): %d, not %d", l, got, e)
	}
}

func wantRegister(t *testing.T, m *vm.Machine, r, n int) {
	t.Helper()
	if got := m.Register(r); got != n {
		t.Errorf("Register(%d): %d, not %d", r, got, n)
	}
}

// wantState holds all that a machine tells against the words.
func wantState(t *testing.T, what any, m *vm.Machine, registers [16]int, place int, waits bool) {
	t.Helper()
	for r, n := range registers {
		if got := m.Register(r); got != n {
			t.Fatalf("%v: register %d is %d, not %d", what, r, got, n)
		}
	}
	if m.Place() != place || m.Waits() != waits {
		t.Fatalf("%v: place %d, waits %v, not %d, %v", what, m.Place(), m.Waits(), place, waits)
	}
}

// both are a machine with its memory, and the model of these.
type both struct {
	m      *vm.Machine
	memory *mem.Memory
	w      *model
}

// bothOf have the bytes, frame by frame.
func bothOf(t *testing.T, frames ...string) *both {
	t.Helper()
	x := &both{vm.New(), memoryOf(t, len(frames)), modelOf(len(frames))}
	for f, s := range frames {
		lay(t, x.memory, f, 0, s)
		copy(x.w.frames[f], s)
	}
	return x
}

func (x *both) clone() *both {
	return &both{x.m.Clone(), x.memory.Clone(), x.w.clone()}
}

func (x *both) step(t *testing.T, table []api.Page) api.Event {
	t.Helper()
	word, _ := x.memory.Read(table, x.m.Place(), 4, api.Runs)
	got, want := x.m.Step(x.memory, table), x.w.step(table)
	if got != want {
		t.Fatalf("the step of %x: %v, not %v", word, got, want)
	}
	x.wantSame(t, []byte(word))
	return got
}

func (x *both) answer(t *testing.T, l []int) {
	t.Helper()
	if e, want := x.m.Answer(l), x.w.answer(l); e != want {
		t.Fatalf("Answer(%v): %d, not %d", l, e, want)
	}
	x.wantSame(t, l)
}

func (x *both) wantSame(t *testing.T, what any) {
	t.Helper()
	wantState(t, what, x.m, x.w.registers, x.w.place, x.w.waits)
	for f, want := range x.w.frames {
		if got, _ := x.memory.Frame(f); got != string(want) {
			t.Fatalf("%v: frame %d is %q, not %q", what, f, got, want)
		}
	}
}

// start makes a machine with these registers, at a place of at most 4096, and the model of it.
func (x *both) start(t *testing.T, place int, registers [16]int) {
	t.Helper()
	m := machineAt(t, place, registers)
	wantState(t, "the start", m, registers, place, false)
	x.m, x.w.registers, x.w.place, x.w.waits = m, registers, place, false
}

// machineAt fills all registers but three by a program, these by an answer, and then jumps.
func machineAt(t *testing.T, place int, registers [16]int) *vm.Machine {
	t.Helper()
	var first []byte
	put := func(op, a, imm int) {
		first = append(first, byte(op), byte(16*a), byte(imm>>8), byte(imm))
	}
	for r, n := range registers {
		put(api.OpSet, r, n%65536)
		put(api.OpHigh, r, n/65536)
	}
	put(api.OpSet, 0, 256+place%4)
	put(api.OpTo, 0, 0)
	steps := len(first) / 4
	memory, table := memoryOf(t, 2), pages(0, api.Runs, 1, api.Runs)
	lay(t, memory, 0, 0, string(first))
	way := (place - place%4 - 256 - 8) / 4
	lay(t, memory, 1, place%4, string([]byte{api.OpAsk, 0, 0, 0, api.OpJump, 0, byte(way >> 8), byte(way)}))
	m := vm.New()
	for range steps + 1 {
		m.Step(memory, table)
	}
	m.Answer(registers[:3])
	m.Step(memory, table)
	return m
}

// word is an instruction's bytes.
func word(t *testing.T, op, a, b, imm int) string {
	t.Helper()
	s, e := isa.Encode(api.Instr{Op: op, A: a, B: b, Imm: imm})
	if e != api.OK {
		t.Fatalf("Encode(%d %d %d %d): %d", op, a, b, imm, e)
	}
	return s
}

// The chapter's examples.

func TestExampleOfDivide(t *testing.T) {
	memory, table := loaded(t, "set r1 7", "set r2 0", "div r1 r2")
	m := vm.New()
	wantSteps(t, m, memory, table, ran, ran, trapped(5), trapped(5))
	wantState(t, "then", m, [16]int{1: 7}, 8, false)
}

func TestExampleOfAsk(t *testing.T) {
	memory, table := loaded(t, "plus r3 -1", "high r3 1", "ask 9", "stop")
	m := vm.New()
	wantSteps(t, m, memory, table, ran, ran)
	wantRegister(t, m, 3, 131071)
	wantSteps(t, m, memory, table, called(9), trapped(2))
	wantAnswer(t, m, []int{1, -1, 2}, api.OK)
	wantSteps(t, m, memory, table, stopped)
	wantState(t, "then", m, [16]int{1, 4294967295, 2, 131071}, 12, false)
}

func TestExampleOfGet(t *testing.T) {
	memory, table := loaded(t, "set r1 65535", "get4 r2 r1 0")
	wantSteps(t, vm.New(), memory, table, ran, trapped(3))
}

func TestExampleOfPageThatDoesNotRun(t *testing.T) {
	memory := memoryOf(t, 1)
	wantSteps(t, vm.New(), memory, pages(0, 3), trapped(1))
}

// P10.1

func TestNew(t *testing.T) {
	wantState(t, "a new one", vm.New(), [16]int{}, 0, false)
}

// What each reckoning makes of a and b, told by hand.
func TestReckonings(t *testing.T) {
	const top = 1 << 31
	for _, x := range []struct {
		line    string
		a, b, n int
	}{
		{"nop", 5, 7, 5},
		{"set r1 0", 5, 7, 0}, {"set r1 65535", whole - 1, 7, 65535},
		{"high r1 0", 0x12345678, 7, 0x5678}, {"high r1 65535", 0x12345678, 7, 0xffff5678}, {"high r1 1", whole - 1, 7, 131071},
		{"move r1 r2", 5, whole - 1, whole - 1}, {"move r1 r1", 5, 7, 5},
		{"add r1 r2", 5, 7, 12}, {"add r1 r2", whole - 1, 2, 1}, {"add r1 r1", top, 0, 0},
		{"sub r1 r2", 7, 5, 2}, {"sub r1 r2", 5, 7, whole - 2}, {"sub r1 r2", 0, whole - 1, 1}, {"sub r1 r1", 5, 7, 0},
		{"mul r1 r2", 5, 7, 35}, {"mul r1 r2", 65536, 65536, 0}, {"mul r1 r2", whole - 1, whole - 1, 1}, {"mul r1 r2", whole - 1, 2, whole - 2}, {"mul r1 r2", 65537, 65537, 131073},
		{"div r1 r2", 7, 2, 3}, {"div r1 r2", 1, 2, 0}, {"div r1 r2", whole - 1, 2, top - 1}, {"div r1 r2", 7, whole - 1, 0}, {"div r1 r2", top, whole - 1, 0}, {"div r1 r1", top, 0, 1},
		{"rem r1 r2", 7, 2, 1}, {"rem r1 r2", whole - 1, 10, 5}, {"rem r1 r2", 7, whole - 1, 7}, {"rem r1 r2", top, whole - 1, top}, {"rem r1 r1", 7, 0, 0},
		{"and r1 r2", 12, 10, 8}, {"or r1 r2", 12, 10, 14}, {"xor r1 r2", 12, 10, 6}, {"xor r1 r1", 12, 10, 0},
		{"not r1", 0, 7, whole - 1}, {"not r1", whole - 1, 7, 0}, {"not r1", 0x0f0f0f0f, 7, 0xf0f0f0f0},
		{"shl r1 r2", 1, 31, top}, {"shl r1 r2", 3, 31, top}, {"shl r1 r2", 5, 32, 5}, {"shl r1 r2", 1, 33, 2}, {"shl r1 r2", 1, whole - 1, top}, {"shl r1 r2", 1, 1 << 16, 1},
		{"shr r1 r2", top, 31, 1}, {"shr r1 r2", whole - 1, 1, top - 1}, {"shr r1 r2", 5, 32, 5}, {"shr r1 r2", 4, 33, 2}, {"shr r1 r2", whole - 1, whole - 1, 1}, {"shr r1 r1", 33, 0, 16},
		{"less r1 r2", 1, 2, 1}, {"less r1 r2", 2, 1, 0}, {"less r1 r2", 2, 2, 0}, {"less r1 r2", whole - 1, 0, 1}, {"less r1 r2", 0, whole - 1, 0}, {"less r1 r2", top, top - 1, 1}, {"less r1 r2", top - 1, top, 0}, {"less r1 r2", top, whole - 1, 1},
		{"below r1 r2", 1, 2, 1}, {"below r1 r2", 2, 1, 0}, {"below r1 r2", 2, 2, 0}, {"below r1 r2", whole - 1, 0, 0}, {"below r1 r2", 0, whole - 1, 1}, {"below r1 r2", top - 1, top, 1},
		{"same r1 r2", 2, 2, 1}, {"same r1 r2", 2, 1, 0}, {"same r1 r2", 0, whole - 1, 0}, {"same r1 r2", 1, 65537, 0}, {"same r1 r1", 9, 0, 1},
		{"plus r1 1", whole - 1, 7, 0}, {"plus r1 -1", 0, 7, whole - 1}, {"plus r1 32767", 1, 7, 32768}, {"plus r1 -32768", 32767, 7, whole - 1}, {"plus r1 -32768", top, 7, top - 32768},
	} {
		memory, table := loaded(t, x.line)
		m := machineAt(t, 0, [16]int{1: x.a, 2: x.b})
		wantSteps(t, m, memory, table, ran)
		want := [16]int{1: x.n, 2: x.b}
		wantState(t, x.line, m, want, 4, false)
	}
}

// numbers are such that lie at the bounds of what is told of them.
func numbers() []int {
	return []int{0, 1, 2, 3, 7, 31, 32, 33, 63, 64, 255, 256, 65535, 65536, 65537, 0x12345678, 1<<31 - 2, 1<<31 - 1, 1 << 31, 1<<31 + 1, 1<<31 + 31, 0xfedcba98, whole - 65536, whole - 32, whole - 2, whole - 1}
}

// immediates are those that an operation's form lets be, at their bounds.
func immediates(op int) []int {
	switch {
	case strings.HasSuffix(forms[op], "U"):
		return []int{0, 1, 255, 256, 32767, 32768, 65534, 65535}
	case strings.HasSuffix(forms[op], "S"):
		return []int{0, 1, 255, 256, 32767, -1, -2, -256, -32767, -32768}
	}
	return []int{0}
}

// fields are the registers that an operation's form lets be named.
func fields(op int) [][2]int {
	switch {
	case strings.HasPrefix(forms[op], "AB"):
		return [][2]int{{1, 2}, {2, 1}, {0, 15}, {15, 0}, {7, 7}}
	case strings.HasPrefix(forms[op], "A"):
		return [][2]int{{0, 0}, {1, 0}, {15, 0}}
	}
	return [][2]int{{0, 0}}
}

// All operations, with all of these registers and numbers.
func TestAllOperationsAtTheirBounds(t *testing.T) {
	rnd := rand.New(rand.NewSource(1))
	for op := range forms {
		for _, f := range fields(op) {
			for _, imm := range immediates(op) {
				wantOperation(t, rnd, op, f[0], f[1], imm)
			}
		}
	}
}

func wantOperation(t *testing.T, rnd *rand.Rand, op, a, b, imm int) {
	t.Helper()
	i := word(t, op, a, b, imm)
	x := bothOf(t, strings.Repeat(i, 64), anyBytes(rnd, 256))
	for _, m := range numbers() {
		for _, n := range numbers() {
			registers := anyRegisters(rnd)
			registers[b], registers[a] = n, m
			c := x.clone()
			c.start(t, 4*rnd.Intn(64), registers)
			c.step(t, pages(0, 7, 1, 3))
			if !strings.Contains(forms[op], "B") {
				break
			}
		}
	}
}

func anyBytes(rnd *rand.Rand, n int) string {
	b := make([]byte, n)
	rnd.Read(b)
	return string(b)
}

func anyRegisters(rnd *rand.Rand) (registers [16]int) {
	for r := range registers {
		registers[r] = rnd.Intn(whole)
	}
	return registers
}

func TestWays(t *testing.T) {
	for _, x := range []struct {
		line         string
		at, a, place int
		then         int
	}{
		{"jump 0", 0, 9, 4, 9},
		{"jump 3", 8, 9, 24, 9},
		{"jump -1", 8, 9, 8, 9},
		{"jump -1", 0, 9, 0, 9},
		{"jump -2", 0, 9, whole - 4, 9},
		{"jump -32768", 100, 9, whole - 131072 + 104, 9},
		{"jump 32767", 100, 9, 131068 + 104, 9},
		{"zero r1 5", 8, 0, 32, 0},
		{"zero r1 5", 8, 1, 12, 1},
		{"zero r1 5", 8, whole - 1, 12, whole - 1},
		{"zero r1 5", 8, 1 << 31, 12, 1 << 31},
		{"zero r1 -32768", 4, 0, whole - 131072 + 8, 0},
		{"some r1 5", 8, 0, 12, 0},
		{"some r1 5", 8, 1, 32, 1},
		{"some r1 5", 8, 65536, 32, 65536},
		{"some r1 -3", 8, whole - 1, 0, whole - 1},
		{"to r1", 8, 0, 0, 0},
		{"to r1", 8, 7, 7, 7},
		{"to r1", 8, whole - 1, whole - 1, whole - 1},
		{"call r1 5", 8, 9, 32, 12},
		{"call r1 0", 8, 9, 12, 12},
		{"call r1 -3", 8, 9, 0, 12},
		{"call r1 -32768", 0, 9, whole - 131072 + 4, 4},
		{"call r1 32767", 0, 9, 131068 + 4, 4},
		{"nop", 8, 9, 12, 9},
		{"set r2 5", 8, 9, 12, 9},
	} {
		memory, table := loaded(t)
		lay(t, memory, 0, x.at, program(t, x.line))
		m := machineAt(t, x.at, [16]int{1: x.a, 2: 5})
		wantSteps(t, m, memory, table, ran)
		wantState(t, x.line, m, [16]int{1: x.then, 2: 5}, x.place, false)
	}
}

// The first register may be the one that leads.
func TestWaysByTheFirstRegister(t *testing.T) {
	memory, table := loaded(t, "call r0 1", "nop", "to r0", "some r0 1", "nop", "sub r0 r0", "zero r0 -7")
	m := vm.New()
	for n, place := range []int{8, 4, 8, 4} {
		wantSteps(t, m, memory, table, ran)
		wantState(t, n, m, [16]int{4}, place, false)
	}
	m = machineAt(t, 12, [16]int{4})
	for n, x := range [][2]int{{20, 4}, {24, 0}, {0, 0}} {
		wantSteps(t, m, memory, table, ran)
		wantState(t, n, m, [16]int{x[1]}, x[0], false)
	}
}

func TestStopStays(t *testing.T) {
	memory, table := loaded(t, "set r3 9", "stop", "set r3 8")
	m := vm.New()
	wantSteps(t, m, memory, table, ran, stopped, stopped, stopped)
	wantState(t, "then", m, [16]int{3: 9}, 4, false)
}

// A trap leaves all as it was; what made it may go away.
func TestTrapsChangeNothing(t *testing.T) {
	for _, x := range []struct {
		line  string
		event api.Event
	}{
		{"div r5 r4", trapped(5)}, {"rem r5 r4", trapped(5)}, {"div r4 r4", trapped(5)}, {"rem r4 r4", trapped(5)},
		{"get1 r5 r6 0", trapped(3)}, {"get4 r5 r4 509", trapped(3)}, {"get4 r6 r6 0", trapped(3)},
		{"put1 r5 r6 0", trapped(4)}, {"put4 r5 r4 509", trapped(4)}, {"put4 r6 r6 0", trapped(4)},
		{"word 1", trapped(2)}, {"word 503316480", trapped(2)}, {"word 4294967295", trapped(2)},
	} {
		i := program(t, x.line)
		c := bothOf(t, strings.Repeat(i, 64), strings.Repeat("keep", 64))
		c.start(t, 100, [16]int{4: 0, 5: 77, 6: 1000, 15: 3})
		before := c.clone()
		for range 3 {
			if e := c.step(t, pages(0, 7, 1, 7)); e != x.event {
				t.Errorf("%s: %v, not %v", x.line, e, x.event)
			}
			c.wantSame(t, x.line)
			before.m = c.m
			before.wantSame(t, x.line)
		}
	}
}

func TestFetch(t *testing.T) {
	nops := strings.Repeat("\x00", 256)
	for _, x := range []struct {
		what  string
		table []api.Page
		place int
		event api.Event
	}{
		{"no page", nil, 0, trapped(1)},
		{"the last four bytes", pages(0, 4), 252, ran},
		{"one behind them", pages(0, 4), 253, trapped(1)},
		{"three behind them", pages(0, 4), 255, trapped(1)},
		{"the page behind all", pages(0, 4), 256, trapped(1)},
		{"over two pages", pages(0, 4, 1, 4), 253, ran},
		{"over two pages, the second one first", pages(1, 4, 0, 4), 255, ran},
		{"over a page and one that does not run", pages(0, 4, 1, 3), 254, trapped(1)},
		{"over one that does not run and a page", pages(0, 3, 1, 4), 254, trapped(1)},
		{"over a page and nothing", pages(0, 4, -1, 0), 254, trapped(1)},
		{"behind nothing", pages(-1, 0, 0, 4), 256, ran},
		{"nothing", pages(-1, 0, 0, 4), 0, trapped(1)},
		{"it reads alone", pages(0, 1), 0, trapped(1)},
		{"it writes alone", pages(0, 2), 0, trapped(1)},
		{"it reads and writes", pages(0, 3), 0, trapped(1)},
		{"it reads and runs", pages(0, 5), 0, ran},
		{"it writes and runs", pages(0, 6), 0, ran},
		{"it runs alone", pages(0, 4), 0, ran},
		{"no rights", pages(0, 0), 0, trapped(1)},
		{"sixteen pages", slices.Repeat(pages(0, 7), 16), 4092, ran},
		{"behind sixteen pages", slices.Repeat(pages(0, 7), 16), 4093, trapped(1)},
		{"seventeen pages", slices.Repeat(pages(0, 7), 17), 0, trapped(1)},
		{"a frame that is none", pages(0, 7, 2, 7), 0, trapped(1)},
		{"rights that are none", pages(0, 7, 1, 8), 0, trapped(1)},
		{"nothing, with a right", pages(0, 7, -1, 4), 0, trapped(1)},
	} {
		c := bothOf(t, nops, nops)
		c.start(t, x.place, [16]int{3: 8})
		if e := c.step(t, x.table); e != x.event {
			t.Errorf("%s: %v, not %v", x.what, e, x.event)
		}
	}
}

// The place may be any number, of which the most are nowhere.
func TestFarPlaces(t *testing.T) {
	memory := memoryOf(t, 16)
	lay(t, memory, 0, 0, program(t, "to r7"))
	var table []api.Page
	for f := range 16 {
		table = append(table, api.Page{Frame: f, Rights: 7})
	}
	for _, place := range []int{4093, 4094, 4095, 4096, 8192, 65536, 1<<31 - 1, 1 << 31, whole - 4096, whole - 4, whole - 3, whole - 1} {
		m := machineAt(t, 0, [16]int{7: place})
		wantSteps(t, m, memory, table, ran, trapped(1), trapped(1))
		wantState(t, place, m, [16]int{7: place}, place, false)
	}
}

// An instruction may stand at any place, not at each fourth one alone.
func TestPlacesBetween(t *testing.T) {
	for at := range 250 {
		memory := memoryOf(t, 1)
		lay(t, memory, 0, at, program(t, "plus r9 -7"))
		m := machineAt(t, at, [16]int{9: 10})
		wantSteps(t, m, memory, pages(0, 4), ran)
		wantState(t, at, m, [16]int{9: 3}, at+4, false)
	}
}

// All first two bytes, with such behind them as lie at the bounds.
func TestAllWords(t *testing.T) {
	rnd := rand.New(rand.NewSource(2))
	x := bothOf(t, "", anyBytes(rnd, 256))
	for head := range 1 << 16 {
		for _, tail := range []string{"\x00\x00", "\x00\x01", "\x80\x00", "\xff\xff"} {
			c := &both{x.m.Clone(), x.memory.Clone(), x.w.clone()}
			s := string([]byte{byte(head >> 8), byte(head)}) + tail
			lay(t, c.memory, 0, 0, s)
			copy(c.w.frames[0], s)
			c.step(t, pages(0, 5, 1, 3))
		}
	}
}

func TestTrapsOfWords(t *testing.T) {
	for _, s := range []string{"\x00\x00\x00\x01", "\x00\x10\x00\x00", "\x01\x00\x00\x01", "\x04\x12\x00\x01", "\x0d\x11\x00\x00", "\x18\x10\x00\x00", "\x1d\x10\x00\x00", "\x1e\x00\x00\x00", "\xff\xff\xff\xff"} {
		memory := memoryOf(t, 1)
		lay(t, memory, 0, 0, s)
		m := vm.New()
		wantSteps(t, m, memory, pages(0, 7), trapped(2), trapped(2))
		wantState(t, s, m, [16]int{}, 0, false)
	}
}
