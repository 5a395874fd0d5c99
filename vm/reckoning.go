package vm

import "castellan/api"

const (
	half = 1 << 16 // a number's lower half is its rest by this
	bits = 32
)

// A reckoning is what the register A becomes, of what A and B have and of the instruction's number.
type reckoning struct {
	of func(a, b, n uint32) uint32
}

// reckonings have their operations' numbers as their places; operations that do something else have none.
func reckonings() [api.Ops]reckoning {
	return [api.Ops]reckoning{
		api.OpSet:   {func(a, b, n uint32) uint32 { return n }},
		api.OpHigh:  {func(a, b, n uint32) uint32 { return a%half + half*n }},
		api.OpMove:  {func(a, b, n uint32) uint32 { return b }},
		api.OpAdd:   {func(a, b, n uint32) uint32 { return a + b }},
		api.OpSub:   {func(a, b, n uint32) uint32 { return a - b }},
		api.OpMul:   {func(a, b, n uint32) uint32 { return a * b }},
		api.OpDiv:   {func(a, b, n uint32) uint32 { return a / b }},
		api.OpRem:   {func(a, b, n uint32) uint32 { return a % b }},
		api.OpAnd:   {func(a, b, n uint32) uint32 { return a & b }},
		api.OpOr:    {func(a, b, n uint32) uint32 { return a | b }},
		api.OpXor:   {func(a, b, n uint32) uint32 { return a ^ b }},
		api.OpNot:   {func(a, b, n uint32) uint32 { return ^a }},
		api.OpShl:   {func(a, b, n uint32) uint32 { return a << (b % bits) }},
		api.OpShr:   {func(a, b, n uint32) uint32 { return a >> (b % bits) }},
		api.OpLess:  {func(a, b, n uint32) uint32 { return truth(int32(a) < int32(b)) }},
		api.OpBelow: {func(a, b, n uint32) uint32 { return truth(a < b) }},
		api.OpSame:  {func(a, b, n uint32) uint32 { return truth(a == b) }},
		api.OpPlus:  {func(a, b, n uint32) uint32 { return a + n }},
	}
}

func truth(is bool) uint32 {
	if is {
		return 1
	}
	return 0
}
