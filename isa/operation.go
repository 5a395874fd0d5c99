package isa

import "castellan/api"

// A form says which of an instruction's fields an operation has.
type form int

const (
	fieldA form = 1 << iota
	fieldB
	unsigned // Imm, from 0 on
	signed   // Imm, below 0 too
)

// An operation has its number as its place in the table.
type operation struct {
	name string
	form form
}

func operations() [api.Ops]operation {
	return [api.Ops]operation{
		api.OpNop:   {"nop", 0},
		api.OpStop:  {"stop", 0},
		api.OpSet:   {"set", fieldA | unsigned},
		api.OpHigh:  {"high", fieldA | unsigned},
		api.OpMove:  {"move", fieldA | fieldB},
		api.OpAdd:   {"add", fieldA | fieldB},
		api.OpSub:   {"sub", fieldA | fieldB},
		api.OpMul:   {"mul", fieldA | fieldB},
		api.OpDiv:   {"div", fieldA | fieldB},
		api.OpRem:   {"rem", fieldA | fieldB},
		api.OpAnd:   {"and", fieldA | fieldB},
		api.OpOr:    {"or", fieldA | fieldB},
		api.OpXor:   {"xor", fieldA | fieldB},
		api.OpNot:   {"not", fieldA},
		api.OpShl:   {"shl", fieldA | fieldB},
		api.OpShr:   {"shr", fieldA | fieldB},
		api.OpLess:  {"less", fieldA | fieldB},
		api.OpBelow: {"below", fieldA | fieldB},
		api.OpSame:  {"same", fieldA | fieldB},
		api.OpPlus:  {"plus", fieldA | signed},
		api.OpGet1:  {"get1", fieldA | fieldB | unsigned},
		api.OpGet4:  {"get4", fieldA | fieldB | unsigned},
		api.OpPut1:  {"put1", fieldA | fieldB | unsigned},
		api.OpPut4:  {"put4", fieldA | fieldB | unsigned},
		api.OpJump:  {"jump", signed},
		api.OpZero:  {"zero", fieldA | signed},
		api.OpSome:  {"some", fieldA | signed},
		api.OpTo:    {"to", fieldA},
		api.OpCall:  {"call", fieldA | signed},
		api.OpAsk:   {"ask", unsigned},
	}
}

// operationOf is the operation of a number; false, if there is none.
func operationOf(op int) (operation, bool) {
	if op < 0 || op >= api.Ops {
		return operation{}, false
	}
	return operations()[op], true
}

// numberOf is the number of the operation of a name; false, if there is none.
func numberOf(name string) (int, bool) {
	for op, o := range operations() {
		if o.name == name {
			return op, true
		}
	}
	return 0, false
}

func (f form) has(part form) bool {
	return f&part != 0
}

// fits tells whether all fields of an instruction are in their bounds, and 0 where the form has none.
func (f form) fits(i api.Instr) bool {
	least, most := f.numbers()
	return f.mayName(fieldA, i.A) && f.mayName(fieldB, i.B) && least <= i.Imm && i.Imm <= most
}

// mayName tells whether the field of a register may be n.
func (f form) mayName(field form, n int) bool {
	if !f.has(field) {
		return n == 0
	}
	return 0 <= n && n < registers
}

// numbers are the least and the most that Imm may be.
func (f form) numbers() (least, most int) {
	switch {
	case f.has(unsigned):
		return 0, 1<<16 - 1
	case f.has(signed):
		return -1 << 15, 1<<15 - 1
	}
	return 0, 0
}
