package vm_test

import (
	"math/rand"
	"slices"
	"testing"

	"castellan/api"
)

// P10.3

// anyProgram is instructions that may be, with bytes between them that are none's.
func anyProgram(rnd *rand.Rand, words int) string {
	var b []byte
	for range words {
		op := rnd.Intn(len(forms))
		if op == api.OpStop && rnd.Intn(4) > 0 {
			op = api.OpPlus
		}
		n, near := rnd.Intn(65536), rnd.Intn(9)-4
		a, r := rnd.Intn(16), rnd.Intn(16)
		switch forms[op] {
		case "-":
			a, r, n = 0, 0, 0
		case "A":
			r, n = 0, 0
		case "AB":
			n = 0
		case "AU":
			r, n = 0, n>>rnd.Intn(16)
		case "ABU":
			n >>= rnd.Intn(16)
		case "AS":
			r, n = 0, near
		case "S":
			a, r, n = 0, 0, near
		case "U":
			a, r = 0, 0
		}
		i := []byte{byte(op), byte(16*a + r), byte(n >> 8), byte(n)}
		if rnd.Intn(50) == 0 {
			i[rnd.Intn(4)] = byte(rnd.Intn(256))
		}
		b = append(b, i...)
	}
	return string(b)
}

// Any programs and any bytes, on any pages: a machine goes on as long as it can, and is begun anew where it can't.
func TestLongRuns(t *testing.T) {
	rnd := rand.New(rand.NewSource(5))
	kinds := map[api.Event]int{}
	for range 1200 {
		x := bothOf(t, anyProgram(rnd, 64), anyProgram(rnd, 64), anyBytes(rnd, 256))
		table := anyTable(rnd)
		x.start(t, 4*rnd.Intn(128), smallRegisters(rnd))
		for range 60 {
			before := x.clone()
			e := x.step(t, table)
			wantFewBytesChanged(t, before, x, table)
			if again := before.m.Step(before.memory, table); again != e {
				t.Fatalf("the same comes to %v, and to %v", e, again)
			}
			before.w = x.w
			before.wantSame(t, "once more")
			kinds[kindOf(e)]++
			if e.Kind == api.VmCalled {
				x.answer(t, []int{rnd.Int(), -rnd.Intn(800), rnd.Intn(800)}[:3-rnd.Intn(8)/7])
				x.answer(t, []int{-rnd.Int(), rnd.Intn(800), rnd.Intn(4)})
			} else if e.Kind != api.VmRan {
				x.start(t, 4*rnd.Intn(128), smallRegisters(rnd))
			}
		}
	}
	for _, e := range []api.Event{ran, stopped, called(0), trapped(1), trapped(2), trapped(3), trapped(4), trapped(5)} {
		if kinds[e] < 50 {
			t.Errorf("the event %v was there too seldom: %v", e, kinds)
		}
	}
}

// kindOf is an event, whichever call it tells.
func kindOf(e api.Event) api.Event {
	if e.Kind == api.VmCalled {
		e.Number = 0
	}
	return e
}

// wantFewBytesChanged: four at most, on frames on which a page lies that is written.
func wantFewBytesChanged(t *testing.T, before, x *both, table []api.Page) {
	t.Helper()
	count := 0
	for f := range x.w.frames {
		then, _ := before.memory.Frame(f)
		now, _ := x.memory.Frame(f)
		changed := 0
		for i := range now {
			changed += one(now[i] != then[i])
		}
		count += changed
		if changed > 0 && !slices.ContainsFunc(table, func(p api.Page) bool { return p.Frame == f && p.Rights&api.Writes != 0 }) {
			t.Fatalf("frame %d was changed by %v", f, table)
		}
	}
	if count > 4 {
		t.Fatalf("%d bytes were changed", count)
	}
}

// anyTable has two pages at least, most of them with most rights.
func anyTable(rnd *rand.Rand) []api.Page {
	t := pages(0, 7, 1, 7, 2, 7)
	for i := range t {
		switch rnd.Intn(6) {
		case 0:
			t[i].Rights = rnd.Intn(8)
		case 1:
			t[i].Frame = rnd.Intn(3)
		case 2:
			if i == 2 {
				t[i] = api.Page{Frame: -1}
			}
		}
	}
	return t
}

// smallRegisters are often addresses of one of three pages.
func smallRegisters(rnd *rand.Rand) [16]int {
	registers := anyRegisters(rnd)
	for r := range registers {
		if rnd.Intn(4) > 0 {
			registers[r] = rnd.Intn(780)
		}
	}
	return registers
}
