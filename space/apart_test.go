package space_test

import (
	"math/rand"
	"strings"
	"testing"

	"castellan/api"
	"castellan/space"
	"castellan/vm"
)

// P12.4

func TestNoFrameIsOfTwo(t *testing.T) {
	rnd := rand.New(rand.NewSource(31))
	for range 200 {
		parts := anyParts(rnd)
		s := spaceOf(t, parts)
		var owners [api.MaxFrames]int
		for part := range parts {
			if rnd.Intn(2) == 0 {
				want(t, "Load", s.Load(part, noughts(rnd.Intn(256*parts[part].Pages+1))), api.OK)
			}
			for _, page := range s.Table(part) {
				owners[page.Frame]++
			}
		}
		for f, n := range owners {
			if n != 1 && f < s.Memory().Frames() || n != 0 && f >= s.Memory().Frames() {
				t.Fatalf("%v: frame %d is of %d", parts, f, n)
			}
		}
	}
}

// all is what the partition's frames have, and its table.
func all(t *testing.T, s *space.Space, part int) string {
	t.Helper()
	var b strings.Builder
	for _, page := range s.Table(part) {
		bytes, e := s.Memory().Frame(page.Frame)
		want(t, "Frame", e, api.OK)
		b.WriteString(string(rune(page.Frame)) + string(rune(page.Rights)) + bytes)
	}
	return b.String()
}

// others is what all but one have.
func others(t *testing.T, s *space.Space, parts, part int) string {
	t.Helper()
	var b strings.Builder
	for p := range parts {
		if p != part {
			b.WriteString(all(t, s, p))
		}
	}
	return b.String()
}

// anyCall does something as a partition, and tells what was answered.
func anyCall(rnd *rand.Rand, s *space.Space, part, size int) string {
	at := rnd.Intn(256*size+40) - 20
	switch rnd.Intn(5) {
	case 0:
		return string(rune(s.Load(part, anyProgram(rnd, size))))
	case 1:
		bytes, e := s.In(part, at, rnd.Intn(257))
		return bytes + string(rune(e))
	case 2:
		return string(rune(s.Out(part, at, anyBytes(rnd, rnd.Intn(257)))))
	default:
		return run(rnd, s, part)
	}
}

// anyProgram puts and gets at addresses that are mostly the partition's own, in some page or a bit more.
func anyProgram(rnd *rand.Rand, size int) string {
	var b strings.Builder
	for range 20 + rnd.Intn(64) {
		r := 3 + rnd.Intn(2)
		b.WriteString(word(api.OpSet, r, 0, 256+rnd.Intn(256*size)))
		switch rnd.Intn(8) {
		case 0, 1, 2:
			b.WriteString(word(api.OpPut4, rnd.Intn(16), r, rnd.Intn(4)))
		case 3, 4:
			b.WriteString(word(api.OpPut1, rnd.Intn(16), r, 0))
		case 5, 6:
			b.WriteString(word(api.OpGet4, rnd.Intn(3), r, 0))
		default:
			b.WriteString(word(api.OpAsk, 0, 0, rnd.Intn(12)))
		}
	}
	if rnd.Intn(4) == 0 {
		b.WriteString(anyBytes(rnd, rnd.Intn(256*size)))
	}
	return b.String()
}

// run lets a machine step in the space's memory by the partition's table.
func run(rnd *rand.Rand, s *space.Space, part int) string {
	m, table := vm.New(), s.Table(part)
	var b strings.Builder
	for range 60 {
		e := m.Step(s.Memory(), table)
		b.WriteString(string(rune(e.Kind)) + string(rune(e.Number)))
		if e.Kind == api.VmCalled {
			m.Answer([]int{rnd.Intn(5000), rnd.Intn(5000), rnd.Intn(5000)})
		}
		if e.Kind == api.VmTrapped {
			break
		}
	}
	return b.String()
}

// Whatever one does changes no byte of another one's.
func TestNothingElseIsChanged(t *testing.T) {
	rnd := rand.New(rand.NewSource(32))
	stores := 0
	for range 30 {
		parts := anyParts(rnd)
		s, w := spaceOf(t, parts), modelOf(parts)
		fill(t, rnd, s, w)
		for range 60 {
			part := rnd.Intn(len(parts))
			before := others(t, s, len(parts), part)
			anyCall(rnd, s, part, parts[part].Pages)
			own := all(t, s, part)
			run(rnd, s, part)
			if all(t, s, part) != own {
				stores++
			}
			if others(t, s, len(parts), part) != before {
				t.Fatalf("%v: partition %d changed what another one has", parts, part)
			}
		}
	}
	if stores < 100 {
		t.Errorf("only %d runs stored anything: too few to tell", stores)
	}
}

// What one is told, and has, is the same whatever others do.
func TestNothingElseIsSeen(t *testing.T) {
	rnd := rand.New(rand.NewSource(33))
	for round := range 30 {
		parts := anyParts(rnd)
		quiet, loud := spaceOf(t, parts), spaceOf(t, parts)
		part := rnd.Intn(len(parts))
		left, right := rand.New(rand.NewSource(int64(round))), rand.New(rand.NewSource(int64(round)))
		for range 60 {
			for other := range parts {
				if other != part {
					anyCall(rnd, loud, other, parts[other].Pages)
				}
			}
			a, b := anyCall(left, quiet, part, parts[part].Pages), anyCall(right, loud, part, parts[part].Pages)
			if a != b || all(t, quiet, part) != all(t, loud, part) {
				t.Fatalf("%v: what partition %d is told hangs on others", parts, part)
			}
		}
	}
}

// A program's own bytes stay, whatever is copied there, and whatever it does itself.
func TestProgramsStay(t *testing.T) {
	rnd := rand.New(rand.NewSource(34))
	for range 60 {
		size := 1 + rnd.Intn(4)
		s := spaceOf(t, partsOf(1, size, 1))
		program := anyProgram(rnd, size)
		program = program[:min(len(program), 256*size)]
		want(t, "Load", s.Load(1, program), api.OK)
		for range 40 {
			run(rnd, s, 1)
			s.Out(1, rnd.Intn(256*size+2)-1, anyBytes(rnd, rnd.Intn(30)))
			want(t, "Load of another one", s.Load(2*rnd.Intn(2), anyBytes(rnd, rnd.Intn(257))), api.OK)
			want(t, "Load of too many", s.Load(1, noughts(256*size+1)), api.ErrSpaceLong)
		}
		for i := range len(program) {
			wantIn(t, s, 1, i, 1, program[i:i+1], api.OK)
		}
	}
}

// By their own tables machines of two partitions run the same program at the same addresses, each in its own memory.
func TestMachinesRunApart(t *testing.T) {
	// set r1 300; put1 r1 r1 0; get1 r2 r1 0; put1 r1 r1 256; they are told in the chapters 9 and 10.
	program := word(api.OpSet, 1, 0, 300) + word(api.OpPut1, 1, 1, 0) + word(api.OpGet1, 2, 1, 0) + word(api.OpPut1, 1, 1, 256)
	s := spaceOf(t, partsOf(2, 2))
	want(t, "Load", s.Load(0, program), api.OK)
	want(t, "Load", s.Load(1, program), api.OK)
	m := vm.New()
	for range 3 {
		if e := m.Step(s.Memory(), s.Table(0)); e.Kind != api.VmRan {
			t.Fatalf("a step: %v", e)
		}
	}
	if e := m.Step(s.Memory(), s.Table(0)); e != (api.Event{Kind: api.VmTrapped, Number: api.TrapPut}) {
		t.Errorf("a put to the address 556, where nothing is of partition 0: %v", e)
	}
	if m.Register(2) != 300%256 {
		t.Errorf("the register 2 has %d", m.Register(2))
	}
	wantIn(t, s, 0, 299, 3, "\x00\x2c\x00", api.OK)
	wantFrame(t, s, 2, program+noughts(240))
	wantFrame(t, s, 3, noughts(256))
}

// word is an instruction's bytes by chapter 9.
func word(op, a, b, imm int) string {
	return string([]byte{byte(op), byte(a<<4 | b), byte(imm >> 8), byte(imm)})
}
