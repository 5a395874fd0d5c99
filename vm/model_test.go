package vm_test

import (
	"slices"
	"strings"

	"castellan/api"
)

const whole = 1 << 32

// forms are what chapter 9's table says of each operation, by their numbers.
var forms = strings.Fields("- - AU AU AB AB AB AB AB AB AB AB AB A AB AB AB AB AB AS ABU ABU ABU ABU S AS AS A AS U")

// model is chapter 10's words once more: numbers that are reduced by hand, and frames that are gone over byte by byte.
type model struct {
	registers [16]int
	place     int
	waits     bool
	frames    [][]byte
}

func modelOf(frames int) *model {
	w := &model{frames: make([][]byte, frames)}
	for f := range w.frames {
		w.frames[f] = make([]byte, 256)
	}
	return w
}

func (w *model) clone() *model {
	c := *w
	c.frames = slices.Clone(w.frames)
	for f := range c.frames {
		c.frames[f] = slices.Clone(c.frames[f])
	}
	return &c
}

// modulo reduces a number, as the 32 bits tell it.
func modulo(n int) int {
	if n %= whole; n < 0 {
		n += whole
	}
	return n
}

func signed(n int) int {
	if n >= whole/2 {
		return n - whole
	}
	return n
}

// times multiplies by halves, so that no number is too long.
func times(a, b int) int {
	return modulo(modulo(a/65536*b)*65536 + a%65536*b)
}

// bitwise goes over the bits of both.
func bitwise(a, b int, of func(x, y int) int) int {
	n := 0
	for p := 1; p < whole; p *= 2 {
		n += p * of(a/p%2, b/p%2)
	}
	return n
}

// shifted is a, doubled or halved so often.
func shifted(a, b int, left bool) int {
	for range b % 32 {
		if left {
			a = modulo(2 * a)
		} else {
			a /= 2
		}
	}
	return a
}

func one(is bool) int {
	if is {
		return 1
	}
	return 0
}

// mayBeTable is chapter 8's word for it.
func (w *model) mayBeTable(t []api.Page) bool {
	for _, p := range t {
		if p.Frame < -1 || p.Frame >= len(w.frames) || p.Rights < 0 || p.Rights > 7 || p.Frame == -1 && p.Rights != 0 {
			return false
		}
	}
	return len(t) <= 16
}

// bytes are the places of n of them; none, if one is not there with the right.
func (w *model) bytes(t []api.Page, at, n, right int) []*byte {
	if !w.mayBeTable(t) {
		return nil
	}
	var l []*byte
	for i := at; i < at+n; i++ {
		if i/256 >= len(t) || t[i/256].Rights/right%2 == 0 {
			return nil
		}
		l = append(l, &w.frames[t[i/256].Frame][i%256])
	}
	return l
}

func numberOf(l []*byte) int {
	n := 0
	for _, b := range l {
		n = 256*n + int(*b)
	}
	return n
}

// decoded is the instruction of a number; none, if a field that its form has not is not 0.
func decoded(word int) (i api.Instr, found bool) {
	i = api.Instr{Op: word >> 24, A: word >> 20 % 16, B: word >> 16 % 16, Imm: word % 65536}
	if i.Op >= len(forms) {
		return i, false
	}
	form := forms[i.Op]
	if strings.Contains(form, "S") && i.Imm >= 32768 {
		i.Imm -= 65536
	}
	has := func(field string, n int) bool { return n == 0 || strings.ContainsAny(form, field) }
	return i, has("A", i.A) && has("B", i.B) && has("US", i.Imm)
}

func trapped(n int) api.Event { return api.Event{Kind: api.VmTrapped, Number: n} }

func (w *model) step(t []api.Page) api.Event {
	if w.waits {
		return trapped(2)
	}
	l := w.bytes(t, w.place, 4, 4)
	if l == nil {
		return trapped(1)
	}
	i, found := decoded(numberOf(l))
	if !found {
		return trapped(2)
	}
	event, place := w.does(i, t)
	w.place = modulo(place)
	return event
}

// does is the table's second column, and where the place is then.
func (w *model) does(i api.Instr, t []api.Page) (api.Event, int) {
	a, b, ran, on := &w.registers[i.A], w.registers[i.B], api.Event{Kind: api.VmRan}, w.place+4
	switch i.Op {
	case api.OpStop:
		return api.Event{Kind: api.VmStopped}, w.place
	case api.OpDiv, api.OpRem:
		if b == 0 {
			return trapped(5), w.place
		}
	case api.OpGet1, api.OpGet4, api.OpPut1, api.OpPut4:
		return w.moves(i, t)
	case api.OpJump:
		return ran, on + 4*i.Imm
	case api.OpZero, api.OpSome:
		if (i.Op == api.OpZero) == (*a == 0) {
			return ran, on + 4*i.Imm
		}
		return ran, on
	case api.OpTo:
		return ran, *a
	case api.OpCall:
		*a = modulo(on)
		return ran, on + 4*i.Imm
	case api.OpAsk:
		w.waits = true
		return api.Event{Kind: api.VmCalled, Number: i.Imm}, on
	}
	*a = reckoned(i.Op, *a, b, i.Imm)
	return ran, on
}

func (w *model) moves(i api.Instr, t []api.Page) (api.Event, int) {
	n := map[int]int{api.OpGet1: 1, api.OpGet4: 4, api.OpPut1: 1, api.OpPut4: 4}[i.Op]
	at := modulo(w.registers[i.B] + i.Imm)
	if i.Op == api.OpGet1 || i.Op == api.OpGet4 {
		l := w.bytes(t, at, n, 1)
		if l == nil {
			return trapped(3), w.place
		}
		w.registers[i.A] = numberOf(l)
		return api.Event{Kind: api.VmRan}, w.place + 4
	}
	l := w.bytes(t, at, n, 2)
	if l == nil {
		return trapped(4), w.place
	}
	rest := w.registers[i.A]
	for k := n - 1; k >= 0; k-- {
		*l[k] = byte(rest % 256)
		rest /= 256
	}
	return api.Event{Kind: api.VmRan}, w.place + 4
}

func reckoned(op, a, b, imm int) int {
	switch op {
	case api.OpSet:
		return imm
	case api.OpHigh:
		return a%65536 + 65536*imm
	case api.OpMove:
		return b
	case api.OpAdd:
		return modulo(a + b)
	case api.OpSub:
		return modulo(a - b)
	case api.OpMul:
		return times(a, b)
	case api.OpDiv:
		return a / b
	case api.OpRem:
		return a - a/b*b
	case api.OpAnd:
		return bitwise(a, b, func(x, y int) int { return x * y })
	case api.OpOr:
		return bitwise(a, b, func(x, y int) int { return max(x, y) })
	case api.OpXor:
		return bitwise(a, b, func(x, y int) int { return (x + y) % 2 })
	case api.OpNot:
		return whole - 1 - a
	case api.OpShl, api.OpShr:
		return shifted(a, b, op == api.OpShl)
	case api.OpLess:
		return one(signed(a) < signed(b))
	case api.OpBelow:
		return one(a < b)
	case api.OpSame:
		return one(a == b)
	case api.OpPlus:
		return modulo(a + imm)
	}
	return a // of nop, whose A is the register 0
}

func (w *model) answer(l []int) api.Errno {
	if !w.waits || len(l) != 3 {
		return api.ErrVmForm
	}
	for r := range l {
		w.registers[r] = modulo(l[r])
	}
	w.waits = false
	return api.OK
}
