package isa_test

import (
	"math"
	"strings"
	"testing"

	"castellan/api"
	"castellan/isa"
)

func wantEncode(t *testing.T, i api.Instr, s string, e api.Errno) {
	t.Helper()
	if got, ge := isa.Encode(i); got != s || ge != e {
		t.Errorf("Encode(%v): %x, %d, not %x, %d", i, got, ge, s, e)
	}
}

func wantDecode(t *testing.T, s string, i api.Instr, e api.Errno) {
	t.Helper()
	if got, ge := isa.Decode(s); got != i || ge != e {
		t.Errorf("Decode(%x): %v, %d, not %v, %d", s, got, ge, i, e)
	}
}

// allOps are the operations' numbers, and some that are none's.
func allOps() []int {
	l := []int{-1, -2, -256, len(forms), len(forms) + 1, 127, 128, 255, 256, 257, 256 + 24, 1 << 32, 1<<32 + 24, math.MinInt, math.MaxInt}
	for op := range forms {
		l = append(l, op)
	}
	return l
}

func registerEdges() []int {
	return []int{0, 1, 2, 7, 8, 14, 15, 16, 17, 31, 255, 256, -1, -15, -16, 1 << 32, math.MinInt, math.MaxInt}
}

func numberEdges() []int {
	return []int{0, 1, -1, 9, 10, 127, 128, 255, 256, -128, -129, -255, -256, 4660, -4660, 32766, 32767, 32768, 32769, -32767, -32768, -32769, 65534, 65535, 65536, 65537, -65535, -65536, 1 << 32, -1 << 32, math.MinInt, math.MaxInt}
}

// edges calls do with instructions at all bounds, and beyond them.
func edges(do func(i api.Instr)) {
	for _, op := range allOps() {
		for _, a := range registerEdges() {
			for _, b := range registerEdges() {
				for _, imm := range numberEdges() {
					do(instr(op, a, b, imm))
				}
			}
		}
	}
}

func TestOperationsAreThoseOfTheChapter(t *testing.T) {
	if len(forms) != api.Ops {
		t.Fatalf("%d operations, not %d", len(forms), api.Ops)
	}
	for name, op := range map[string]int{"nop": 0, "stop": 1, "set": 2, "high": 3, "move": 4, "add": 5, "sub": 6, "mul": 7, "div": 8, "rem": 9, "and": 10, "or": 11, "xor": 12, "not": 13, "shl": 14, "shr": 15, "less": 16, "below": 17, "same": 18, "plus": 19, "get1": 20, "get4": 21, "put1": 22, "put4": 23, "jump": 24, "zero": 25, "some": 26, "to": 27, "call": 28, "ask": 29} {
		if s, e := isa.Print(instr(op, 0, 0, 0)); strings.Split(s, " ")[0] != name || e != api.OK {
			t.Errorf("%d is %q, %d, not %s", op, s, e, name)
		}
		if b, e := isa.Encode(instr(op, 0, 0, 0)); b != string([]byte{byte(op), 0, 0, 0}) || e != api.OK {
			t.Errorf("%s: %x, %d", name, b, e)
		}
	}
}

func TestCheck(t *testing.T) {
	for _, x := range []struct {
		i api.Instr
		e api.Errno
	}{
		{instr(api.OpNop, 0, 0, 0), api.OK},
		{instr(api.OpNop, 1, 0, 0), api.ErrIsaForm},
		{instr(api.OpNop, 0, 1, 0), api.ErrIsaForm},
		{instr(api.OpStop, 0, 0, 1), api.ErrIsaForm},
		{instr(api.OpStop, 0, 0, -1), api.ErrIsaForm},
		{instr(api.OpSet, 15, 0, 65535), api.OK},
		{instr(api.OpSet, 16, 0, 65535), api.ErrIsaForm},
		{instr(api.OpSet, -1, 0, 0), api.ErrIsaForm},
		{instr(api.OpSet, 0, 1, 0), api.ErrIsaForm},
		{instr(api.OpSet, 0, 0, 65536), api.ErrIsaForm},
		{instr(api.OpSet, 0, 0, -1), api.ErrIsaForm},
		{instr(api.OpMove, 15, 15, 0), api.OK},
		{instr(api.OpMove, 15, 16, 0), api.ErrIsaForm},
		{instr(api.OpMove, 15, 15, 1), api.ErrIsaForm},
		{instr(api.OpNot, 15, 0, 0), api.OK},
		{instr(api.OpNot, 0, 1, 0), api.ErrIsaForm},
		{instr(api.OpPlus, 15, 0, -32768), api.OK},
		{instr(api.OpPlus, 15, 0, 32767), api.OK},
		{instr(api.OpPlus, 15, 0, -32769), api.ErrIsaForm},
		{instr(api.OpPlus, 15, 0, 32768), api.ErrIsaForm},
		{instr(api.OpPut4, 15, 15, 65535), api.OK},
		{instr(api.OpPut4, 15, 15, -1), api.ErrIsaForm},
		{instr(api.OpJump, 0, 0, -32768), api.OK},
		{instr(api.OpJump, 1, 0, 0), api.ErrIsaForm},
		{instr(api.OpAsk, 0, 0, 65535), api.OK},
		{instr(api.OpAsk, 1, 0, 0), api.ErrIsaForm},
		{instr(30, 0, 0, 0), api.ErrIsaForm},
		{instr(-1, 0, 0, 0), api.ErrIsaForm},
		{instr(math.MaxInt, 0, 0, 0), api.ErrIsaForm},
		{instr(math.MinInt, 0, 0, 0), api.ErrIsaForm},
	} {
		if e := isa.Check(x.i); e != x.e {
			t.Errorf("Check(%v): %d, not %d", x.i, e, x.e)
		}
	}
}

func TestCheckEncodeAndPrintAtAllEdges(t *testing.T) {
	edges(func(i api.Instr) {
		s, e := slowEncode(i)
		if got := isa.Check(i); got != e {
			t.Errorf("Check(%v): %d, not %d", i, got, e)
		}
		wantEncode(t, i, s, e)
		s, e = slowPrint(i)
		wantPrint(t, i, s, e)
	})
}

func TestEncode(t *testing.T) {
	wantEncode(t, instr(api.OpGet4, 1, 2, 300), "\x15\x12\x01\x2c", api.OK)
	wantEncode(t, instr(api.OpJump, 0, 0, -2), "\x18\x00\xff\xfe", api.OK)
	wantEncode(t, instr(api.OpNop, 1, 0, 0), "", api.ErrIsaForm)
	wantEncode(t, instr(30, 0, 0, 0), "", api.ErrIsaForm)
	wantEncode(t, instr(api.OpNop, 0, 0, 0), "\x00\x00\x00\x00", api.OK)
	wantEncode(t, instr(api.OpXor, 15, 8, 0), "\x0c\xf8\x00\x00", api.OK)
	wantEncode(t, instr(api.OpCall, 10, 0, -32768), "\x1c\xa0\x80\x00", api.OK)
	wantEncode(t, instr(api.OpAsk, 0, 0, 65535), "\x1d\x00\xff\xff", api.OK)
}

func TestDecode(t *testing.T) {
	none := api.Instr{}
	wantDecode(t, "\x15\x12\x01\x2c", instr(api.OpGet4, 1, 2, 300), api.OK)
	wantDecode(t, "\x18\x00\xff\xfe", instr(api.OpJump, 0, 0, -2), api.OK)
	wantDecode(t, "\x1d\x00\xff\xff", instr(api.OpAsk, 0, 0, 65535), api.OK)
	wantDecode(t, "\x13\x20\x80\x00", instr(api.OpPlus, 2, 0, -32768), api.OK)
	wantDecode(t, "\x13\x20\x7f\xff", instr(api.OpPlus, 2, 0, 32767), api.OK)
	wantDecode(t, "\x00\x00\x00\x00", none, api.OK)
	wantDecode(t, "\x00\x00\x00\x01", none, api.ErrIsaWord)
	wantDecode(t, "\x00\x10\x00\x00", none, api.ErrIsaWord)
	wantDecode(t, "\x0d\x01\x00\x00", none, api.ErrIsaWord)
	wantDecode(t, "\x1e\x00\x00\x00", none, api.ErrIsaWord)
	wantDecode(t, "\xff\xff\xff\xff", none, api.ErrIsaWord)
	for n := range 12 {
		if n != 4 {
			wantDecode(t, strings.Repeat("\x00", n), none, api.ErrIsaWord)
			wantDecode(t, strings.Repeat("\x01\x00\x00\x00", 3)[:n], none, api.ErrIsaWord)
		}
	}
}

// All first two bytes, with bytes behind them that lie at the bounds.
func TestDecodeOfAllBeginnings(t *testing.T) {
	for head := range 1 << 16 {
		for _, tail := range []string{"\x00\x00", "\x00\x01", "\x00\xff", "\x01\x00", "\x12\x34", "\x7f\xff", "\x80\x00", "\xff\x00", "\xff\xff"} {
			s := string([]byte{byte(head >> 8), byte(head)}) + tail
			i, e := slowDecode(s)
			wantDecode(t, s, i, e)
			if e == api.OK {
				wantEncode(t, i, s, api.OK)
			}
		}
	}
}

// All numbers that the last two bytes may be, behind each operation's first two.
func TestDecodeOfAllEnds(t *testing.T) {
	for op := range forms {
		for tail := range 1 << 16 {
			s := string([]byte{byte(op), 0, byte(tail >> 8), byte(tail)})
			i, e := slowDecode(s)
			wantDecode(t, s, i, e)
			if e == api.OK {
				wantEncode(t, i, s, api.OK)
			}
		}
	}
}

func TestDecodeOfEncodeIsTheInstruction(t *testing.T) {
	count := 0
	edges(func(i api.Instr) {
		if b, e := isa.Encode(i); e == api.OK {
			wantDecode(t, b, i, api.OK)
			count++
		}
	})
	if count == 0 {
		t.Error("no instruction may be")
	}
}
