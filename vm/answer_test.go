package vm_test

import (
	"math"
	"slices"
	"testing"

	"castellan/api"
	"castellan/vm"
)

// waiting is a machine that asked at the place 0, with all registers filled.
func waiting(t *testing.T) (*vm.Machine, [16]int) {
	t.Helper()
	var registers [16]int
	for r := range registers {
		registers[r] = 1000 + r
	}
	memory, table := loaded(t, "ask 65535")
	m := machineAt(t, 0, registers)
	wantSteps(t, m, memory, table, called(65535))
	wantState(t, "waiting", m, registers, 4, true)
	return m, registers
}

// P10.1

func TestAsk(t *testing.T) {
	for _, n := range []int{0, 1, 255, 256, 32767, 32768, 65535} {
		memory := memoryOf(t, 1)
		lay(t, memory, 0, 40, word(t, api.OpAsk, 0, 0, n))
		m := machineAt(t, 40, [16]int{5, 6, 7, 8})
		wantSteps(t, m, memory, pages(0, 4), called(n))
		wantState(t, n, m, [16]int{5, 6, 7, 8}, 44, true)
	}
}

// A machine that waits traps ahead of all else, whatever stands at its place, and whatever the table is.
func TestStepOfOneThatWaits(t *testing.T) {
	m, registers := waiting(t)
	memory, table := loaded(t, "ask 1", "set r0 7", "stop")
	for _, table := range [][]api.Page{table, nil, pages(0, 3), pages(9, 9), slices.Repeat(pages(0, 7), 17)} {
		wantSteps(t, m, memory, table, trapped(2), trapped(2))
		wantState(t, "waiting", m, registers, 4, true)
	}
	wantAnswer(t, m, []int{1, 2, 3}, api.OK)
	wantSteps(t, m, memory, nil, trapped(1))
	wantSteps(t, m, memory, table, ran, stopped)
	wantRegister(t, m, 0, 7)
}

// P10.2

func TestAnswer(t *testing.T) {
	for _, n := range []int{0, 1, 2, 255, 1<<31 - 1, 1 << 31, whole - 1, whole, whole + 1, 1<<40 + 5, 7*whole - 1, -1, -2, -1 << 31, -whole, -whole - 1, -1 << 40, math.MinInt, math.MinInt + 1, math.MaxInt, math.MaxInt - 1} {
		for r := range 3 {
			m, registers := waiting(t)
			l := []int{11, 12, 13}
			l[r] = n
			wantAnswer(t, m, l, api.OK)
			copy(registers[:], []int{11, 12, 13})
			registers[r] = modulo(n)
			wantState(t, n, m, registers, 4, false)
		}
	}
}

func TestAnswerOfOneThatDoesNotWait(t *testing.T) {
	for _, l := range [][]int{{1, 2, 3}, {0, 0, 0}, {}, nil, {1}, {1, 2, 3, 4}} {
		m := vm.New()
		wantAnswer(t, m, l, api.ErrVmForm)
		wantState(t, l, m, [16]int{}, 0, false)
	}
	m, registers := waiting(t)
	wantAnswer(t, m, []int{1, 2, 3}, api.OK)
	wantAnswer(t, m, []int{4, 5, 6}, api.ErrVmForm)
	copy(registers[:], []int{1, 2, 3})
	wantState(t, "behind the answer", m, registers, 4, false)
}

func TestAnswerThatIsNone(t *testing.T) {
	m, registers := waiting(t)
	for _, n := range []int{0, 1, 2, 4, 5, 16, 17, 300} {
		wantAnswer(t, m, slices.Repeat([]int{7}, n), api.ErrVmForm)
		wantState(t, n, m, registers, 4, true)
	}
	wantAnswer(t, m, nil, api.ErrVmForm)
	wantState(t, "none", m, registers, 4, true)
	wantAnswer(t, m, []int{7, 8, 9}, api.OK)
}

// R4: what is handed in is neither changed nor kept, nor the room behind it.
func TestAnswersStayTheCallers(t *testing.T) {
	m, registers := waiting(t)
	room := []int{-1, -2, whole + 3, 4, 5}
	wantAnswer(t, m, room[:3], api.OK)
	if !slices.Equal(room, []int{-1, -2, whole + 3, 4, 5}) {
		t.Errorf("the list was changed: %v", room)
	}
	room[0] = 9
	copy(registers[:], []int{whole - 1, whole - 2, 3})
	wantState(t, "then", m, registers, 4, false)
}

func TestTablesStayTheCallers(t *testing.T) {
	memory := memoryOf(t, 2)
	lay(t, memory, 0, 0, program(t, "set r1 256", "put4 r1 r1 0", "get1 r2 r1 2", "jump 0"))
	room := pages(0, 4, 1, 3, 0, 7)
	m := vm.New()
	wantSteps(t, m, memory, room[:2], ran, ran, ran, ran, ran)
	if !slices.Equal(room, pages(0, 4, 1, 3, 0, 7)) {
		t.Errorf("the table was changed: %v", room)
	}
	room[0].Rights = 3
	wantSteps(t, m, memory, room[:2], trapped(1))
}

func TestRegistersThatAreNone(t *testing.T) {
	m, registers := waiting(t)
	for _, r := range []int{-1, -2, -16, 16, 17, 32, 256, whole, whole + 1, math.MinInt, math.MaxInt} {
		wantRegister(t, m, r, 0)
	}
	for r, n := range registers {
		wantRegister(t, m, r, n)
	}
}

// R7

func TestCloneGoesItsOwnWay(t *testing.T) {
	m, registers := waiting(t)
	c := m.Clone()
	wantState(t, "the clone", c, registers, 4, true)
	wantAnswer(t, m, []int{1, 2, 3}, api.OK)
	wantState(t, "the clone", c, registers, 4, true)
	memory, table := loaded(t, "nop", "set r9 5", "stop")
	wantSteps(t, m, memory, table, ran)
	wantSteps(t, c, memory, table, trapped(2))
	wantState(t, "the clone", c, registers, 4, true)
	wantAnswer(t, c, []int{7, 8, 9}, api.OK)
	original, clone := registers, registers
	copy(original[:], []int{1, 2, 3, 1003, 1004, 1005, 1006, 1007, 1008, 5})
	copy(clone[:], []int{7, 8, 9})
	wantState(t, "the original", m, original, 8, false)
	wantState(t, "the clone", c, clone, 4, false)
}

func TestCloneOfANewOne(t *testing.T) {
	m := vm.New()
	c := m.Clone()
	memory, table := loaded(t, "set r1 5", "ask 3")
	wantSteps(t, c, memory, table, ran, called(3))
	wantState(t, "the original", m, [16]int{}, 0, false)
	wantState(t, "the clone", c, [16]int{1: 5}, 8, true)
	wantState(t, "another one", vm.New(), [16]int{}, 0, false)
}
