package vm

import (
	"castellan/api"
	"castellan/mem"
)

// do is what a step of an instruction comes to. Nothing is changed ahead of what may be refused.
func (m *Machine) do(i api.Instr, memory *mem.Memory, t []api.Page) api.Event {
	a, b, n := &m.registers[i.A], m.registers[i.B], uint32(i.Imm)
	switch i.Op {
	case api.OpNop:
		goto on
	case api.OpStop:
		return api.Event{Kind: api.VmStopped}
	case api.OpDiv, api.OpRem:
		goto divide
	case api.OpGet1, api.OpGet4:
		goto get
	case api.OpPut1, api.OpPut4:
		goto put
	case api.OpJump, api.OpZero, api.OpSome, api.OpTo, api.OpCall:
		goto lead
	case api.OpAsk:
		goto ask
	}
	goto reckon
divide:
	if b == 0 {
		return trap(api.TrapDivide)
	}
reckon:
	*a = reckonings()[i.Op].of(*a, b, n)
	goto on
get:
	if word, e := memory.Load(t, int(b+n), width(i.Op), api.Reads); e == api.OK {
		*a = uint32(word)
		goto on
	}
	return trap(api.TrapGet)
put:
	if e := memory.Store(t, int(b+n), width(i.Op), int(*a)); e != api.OK {
		return trap(api.TrapPut)
	}
on:
	m.place += wordSize
	return api.Event{Kind: api.VmRan}
lead:
	m.lead(i)
	return api.Event{Kind: api.VmRan}
ask:
	m.place += wordSize
	m.waits = true
	return api.Event{Kind: api.VmCalled, Number: i.Imm}
}

// lead sets the place where an instruction leads, which is the one behind it, if a jump is not taken.
func (m *Machine) lead(i api.Instr) {
	a := &m.registers[i.A]
	m.place += wordSize
	switch i.Op {
	case api.OpTo:
		m.place = *a
		return
	case api.OpZero:
		if *a != 0 {
			return
		}
	case api.OpSome:
		if *a == 0 {
			return
		}
	case api.OpCall:
		*a = m.place
	}
	m.place += wordSize * uint32(i.Imm)
}

func trap(number int) api.Event {
	return api.Event{Kind: api.VmTrapped, Number: number}
}

// width is how many bytes an operation gets or puts.
func width(op int) int {
	if op == api.OpGet1 || op == api.OpPut1 {
		return 1
	}
	return wordSize
}
