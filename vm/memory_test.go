package vm_test

import (
	"math/rand"
	"strings"
	"testing"

	"castellan/api"
	"castellan/vm"
)

func TestGets(t *testing.T) {
	for _, x := range []struct {
		line string
		base int
		n    int
	}{
		{"get1 r1 r2 0", 256, 0x81},
		{"get1 r1 r2 3", 256, 0xb4},
		{"get1 r1 r2 256", 1, 0x92},
		{"get4 r1 r2 0", 256, 0x8192a3b4},
		{"get4 r1 r2 0", 257, 0x92a3b4c5},
		{"get4 r1 r2 65535", whole - 65535 + 256, 0x8192a3b4},
		{"get1 r1 r2 255", 1, 0x81},
		{"get4 r1 r2 2", whole - 1 + 256, 0x92a3b4c5},
		{"get1 r2 r2 1", 256, 0x92},
		{"get4 r2 r2 0", 256, 0x8192a3b4},
	} {
		memory := memoryOf(t, 2)
		lay(t, memory, 0, 0, program(t, x.line))
		lay(t, memory, 1, 0, "\x81\x92\xa3\xb4\xc5")
		m := machineAt(t, 0, [16]int{1: 77, 2: modulo(x.base)})
		wantSteps(t, m, memory, pages(0, 4, 1, 1), ran)
		want := [16]int{1: x.n, 2: modulo(x.base)}
		if strings.Contains(x.line, "r2 r2") {
			want = [16]int{1: 77, 2: x.n}
		}
		wantState(t, x.line, m, want, 4, false)
	}
}

func TestPuts(t *testing.T) {
	for _, x := range []struct {
		line string
		a, b int
		want string
	}{
		{"put1 r1 r2 0", 0x12345678, 256, "\x78bcdefgh"},
		{"put1 r1 r2 7", 0x12345600, 256, "abcdefg\x00"},
		{"put4 r1 r2 0", 0x12345678, 256, "\x12\x34\x56\x78efgh"},
		{"put4 r1 r2 256", 0x12345678, 3, "abc\x12\x34\x56\x78h"},
		{"put4 r1 r2 65535", 0xfedcba98, whole - 65535 + 257, "a\xfe\xdc\xba\x98fgh"},
		{"put4 r1 r2 0", whole - 1, 260, "abcd\xff\xff\xff\xff"},
		{"put4 r2 r2 0", 0, 256, "\x00\x00\x01\x00efgh"},
		{"put1 r2 r2 1", 0, 257, "ab\x01defgh"},
	} {
		memory := memoryOf(t, 2)
		lay(t, memory, 0, 0, program(t, x.line))
		lay(t, memory, 1, 0, "abcdefgh")
		m := machineAt(t, 0, [16]int{1: x.a, 2: modulo(x.b)})
		wantSteps(t, m, memory, pages(0, 4, 1, 2), ran)
		wantState(t, x.line, m, [16]int{1: x.a, 2: modulo(x.b)}, 4, false)
		if s, _ := memory.Frame(1); s != x.want+strings.Repeat("\x00", 248) {
			t.Errorf("%s: %q, not %q", x.line, s[:8], x.want)
		}
	}
}

// The rights that are asked for, where a page begins and ends, and where the addresses do.
func TestAccessAtAllEdges(t *testing.T) {
	rnd := rand.New(rand.NewSource(3))
	table := pages(0, 4, 1, 1, 2, 3, 3, 2, -1, 0, 1, 7, 2, 5, 3, 6, 3, 0, 2, 2, 2, 2)
	x := bothOf(t, "", anyBytes(rnd, 256), anyBytes(rnd, 256), anyBytes(rnd, 256))
	for _, op := range []int{api.OpGet1, api.OpGet4, api.OpPut1, api.OpPut4} {
		for p := range len(table) + 2 {
			for near := -5; near <= 5; near++ {
				for _, imm := range []int{0, 1, 4, 300, 65535} {
					c := x.clone()
					s := word(t, op, 3, 4, imm)
					lay(t, c.memory, 0, 0, s)
					copy(c.w.frames[0], s)
					registers := anyRegisters(rnd)
					registers[4] = modulo(256*p + near - imm)
					c.start(t, 0, registers)
					c.step(t, table)
				}
			}
		}
	}
}

func TestAccessByFarAddresses(t *testing.T) {
	for _, x := range []struct {
		base, imm int
		there     bool
	}{
		{whole - 1, 0, false}, {whole - 1, 1, true}, {whole - 4, 0, false}, {whole - 4, 4, true}, {whole - 65535, 65535, true}, {whole - 65536, 65535, false}, {1 << 31, 0, false}, {1 << 31, 65535, false},
		{252, 0, true}, {253, 0, false}, {0, 252, true}, {0, 253, false}, {0, 65535, false}, {whole - 2, 1, false}, {whole - 3, 0, false},
	} {
		for _, op := range []int{api.OpGet4, api.OpPut4} {
			memory, table := loaded(t)
			lay(t, memory, 0, 128, word(t, op, 5, 6, x.imm))
			want := ran
			if !x.there {
				want = trapped(map[int]int{api.OpGet4: 3, api.OpPut4: 4}[op])
			}
			wantSteps(t, machineAt(t, 128, [16]int{6: x.base}), memory, table, want)
		}
	}
}

// A page that is written and run tells what was written.
func TestProgramThatWritesItself(t *testing.T) {
	memory, table := loaded(t, "get4 r1 r0 20", "put4 r1 r0 8", "set r5 1", "stop", "nop", "set r5 2")
	m := vm.New()
	wantSteps(t, m, memory, table, ran, ran, ran, stopped)
	wantState(t, "then", m, [16]int{1: 0x02500002, 5: 2}, 12, false)
}

func TestPutOverItself(t *testing.T) {
	memory, table := loaded(t, "nop", "put4 r1 r0 4")
	m := machineAt(t, 4, [16]int{1: 0x01000000})
	wantSteps(t, m, memory, table, ran)
	wantState(t, "then", m, [16]int{1: 0x01000000}, 8, false)
	if s, _ := memory.Frame(0); s[4:8] != "\x01\x00\x00\x00" {
		t.Errorf("%q", s[4:8])
	}
}

// Where two pages lie on one frame, a word that goes over both is laid byte by byte.
func TestPutOverTwoPagesOfOneFrame(t *testing.T) {
	memory := memoryOf(t, 2)
	lay(t, memory, 0, 0, program(t, "put4 r1 r2 0"))
	m := machineAt(t, 0, [16]int{1: 0x01020304, 2: 510})
	wantSteps(t, m, memory, pages(0, 4, 1, 2, 1, 2), ran)
	if s, _ := memory.Frame(1); s != "\x03\x04"+strings.Repeat("\x00", 252)+"\x01\x02" {
		t.Errorf("%q", s)
	}
}
