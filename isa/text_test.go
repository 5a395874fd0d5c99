package isa_test

import (
	"fmt"
	"math/rand"
	"strings"
	"testing"

	"castellan/api"
	"castellan/isa"
)

func wantPrint(t *testing.T, i api.Instr, s string, e api.Errno) {
	t.Helper()
	if got, ge := isa.Print(i); got != s || ge != e {
		t.Errorf("Print(%v): %q, %d, not %q, %d", i, got, ge, s, e)
	}
}

func wantParse(t *testing.T, s string, i api.Instr, e api.Errno) {
	t.Helper()
	if got, ge := isa.Parse(s); got != i || ge != e {
		t.Errorf("Parse(%q): %v, %d, not %v, %d", s, got, ge, i, e)
	}
}

func wantParseAsSlow(t *testing.T, s string) {
	t.Helper()
	i, e := slowParse(s)
	wantParse(t, s, i, e)
}

// told are instructions and their texts, one of each operation at least.
func told() map[string]api.Instr {
	return map[string]api.Instr{
		"nop": instr(0, 0, 0, 0), "stop": instr(1, 0, 0, 0),
		"set r1 65535": instr(2, 1, 0, 65535), "set r0 0": instr(2, 0, 0, 0), "high r15 10": instr(3, 15, 0, 10),
		"move r1 r2": instr(4, 1, 2, 0), "add r15 r0": instr(5, 15, 0, 0), "sub r0 r15": instr(6, 0, 15, 0), "mul r10 r11": instr(7, 10, 11, 0),
		"div r9 r9": instr(8, 9, 9, 0), "rem r3 r4": instr(9, 3, 4, 0), "and r5 r6": instr(10, 5, 6, 0), "or r7 r8": instr(11, 7, 8, 0),
		"xor r12 r13": instr(12, 12, 13, 0), "not r14": instr(13, 14, 0, 0), "shl r1 r1": instr(14, 1, 1, 0), "shr r0 r0": instr(15, 0, 0, 0),
		"less r2 r1": instr(16, 2, 1, 0), "below r1 r2": instr(17, 1, 2, 0), "same r1 r10": instr(18, 1, 10, 0), "plus r1 -1": instr(19, 1, 0, -1),
		"plus r1 32767": instr(19, 1, 0, 32767), "plus r1 -32768": instr(19, 1, 0, -32768), "plus r0 0": instr(19, 0, 0, 0),
		"get1 r1 r2 0": instr(20, 1, 2, 0), "get4 r1 r2 300": instr(21, 1, 2, 300), "put1 r15 r15 65535": instr(22, 15, 15, 65535), "put4 r0 r1 2": instr(23, 0, 1, 2),
		"jump -2": instr(24, 0, 0, -2), "jump 0": instr(24, 0, 0, 0), "zero r1 -10": instr(25, 1, 0, -10), "some r2 100": instr(26, 2, 0, 100),
		"to r15": instr(27, 15, 0, 0), "call r14 7": instr(28, 14, 0, 7), "ask 0": instr(29, 0, 0, 0), "ask 65535": instr(29, 0, 0, 65535),
	}
}

func TestPrintAndParse(t *testing.T) {
	for s, i := range told() {
		wantPrint(t, i, s, api.OK)
		wantParse(t, s, i, api.OK)
	}
	wantPrint(t, instr(api.OpNop, 1, 0, 0), "", api.ErrIsaForm)
	wantPrint(t, instr(api.OpJump, 0, 0, 32768), "", api.ErrIsaForm)
	wantPrint(t, instr(api.Ops, 0, 0, 0), "", api.ErrIsaForm)
	wantPrint(t, instr(-1, 0, 0, 0), "", api.ErrIsaForm)
}

func TestWhatIsNoText(t *testing.T) {
	for _, s := range []string{
		"", " ", "\n", "\x00", "r1", "5", "-", "word 7", "word", "a:", "nop:", "jumps 5", "jum 5",
		"nop ", " nop", "Nop", "NOP", "nop\n", "nop\r", "nop\x00", "nop 0", "nop r0", "nop nop", "stop 0", "stop  ",
		"set", "set ", "set r1", "set r1 ", "set 1", "set r1 1 ", "set r1 1 1", "set r1 r1", "set 1 r1", "set 1 1", "set r1 r1 1", "set r1  1", "set  r1 1", " set r1 1", "setr1 1", "set r11",
		"set\tr1 1", "set r1\t1", "set r1\n1", "set,r1,1", "set r1,1", "set r1\xc2\xa01",
		"set r1 01", "set r1 00", "set r1 -0", "set r1 +0", "set r1 +1", "set r1 -1", "set r1 65536", "set r1 100000", "set r1 1e1", "set r1 0x1", "set r1 1_0", "set r1 1.0", "set r1 --1", "set r1 -", "set r1 ٣",
		"set r1 18446744073709551617", "set r1 99999999999999999999999999", "set r1 " + strings.Repeat("0", 300) + "1",
		"set r01 1", "set r00 1", "set r16 1", "set r100 1", "set r-1 1", "set r-0 1", "set r+1 1", "set R1 1", "set r 1", "set rr1 1", "set r1r 1", "set r18446744073709551617 1", "set r4294967296 1",
		"move", "move r1", "move r1 ", "move r1 2", "move 1 r2", "move r1 r16", "move r1 r2 0", "move r1 r2 r3", "move r1 r2 ", "move r1  r2", "move r1 r02",
		"not", "not r16", "not 1", "not r1 0", "not r1 r0", "to r1 0", "to",
		"plus r1 32768", "plus r1 -32769", "plus r1 -01", "plus r1 - 1", "plus r1 @a", "plus r1",
		"get4 r01 r2 300", "get4 r1 r2", "get4 r1 300", "get4 r1 r2 r3 300", "get4 300 r1 r2", "get4 r1 300 r2", "get4 r1 r2 -1", "get4 r1 r2 65536", "get4 r1 r2 300 ", "get5 r1 r2 300", "get4r1 r2 300",
		"jump", "jump -0", "jump  5", "jump 5 ", "jump r1", "jump r1 5", "jump 32768", "jump -32769", "jump @a", "jump @", "jump a", "jump +5", "jump 05", "jump 5 5",
		"zero r1 @a", "some r1 @a", "call r1 @a", "call 1", "call r1", "ask 65536", "ask -1", "ask r1", "ask", "ask ",
		strings.Repeat("r1 ", 100000), "nop" + strings.Repeat(" ", 100000), "set" + strings.Repeat(" r1", 100000) + " 1", "ask " + strings.Repeat("9", 100000),
	} {
		wantParse(t, s, api.Instr{}, api.ErrIsaText)
	}
}

func TestParseOfAllRegistersAndNumbers(t *testing.T) {
	for n := -40; n <= 300; n++ {
		for _, s := range []string{"not r%d", "xor r%d r3", "xor r3 r%d", "set r%d 1", "put1 r%d r1 1", "put1 r1 r%d 1", "some r%d -1", "not r0%d", "not r%d0"} {
			wantParseAsSlow(t, fmt.Sprintf(s, n))
		}
	}
	for n := -70000; n <= 70000; n++ {
		for _, s := range []string{"ask %d", "jump %d", "plus r1 %d", "get1 r1 r2 %d"} {
			wantParseAsSlow(t, fmt.Sprintf(s, n))
		}
	}
}

// near calls do with all texts that one byte more, less, or other makes of s.
func near(s string, do func(string)) {
	for at := range len(s) + 1 {
		for _, b := range []byte(" 0123456789-+r@:_\n\r\t\x00\xffaAnjps") {
			do(s[:at] + string([]byte{b}) + s[at:])
			if at < len(s) {
				do(s[:at] + string([]byte{b}) + s[at+1:])
			}
		}
		if at < len(s) {
			do(s[:at] + s[at+1:])
			do(s[at:])
			do(s[:at])
		}
	}
}

func TestParseOfNearTexts(t *testing.T) {
	for s := range told() {
		near(s, func(s string) { wantParseAsSlow(t, s) })
	}
}

// All rows of up to four words, of such as stand in texts and beside them.
func TestParseOfAllRowsOfWords(t *testing.T) {
	words := []string{"nop", "set", "move", "not", "get4", "jump", "zero", "ask", "word", "r1", "r15", "r16", "0", "7", "-7", "65535", "@a", ""}
	rows := words
	for range 4 {
		var longer []string
		for _, row := range rows {
			wantParseAsSlow(t, row)
			for _, w := range words {
				longer = append(longer, row+" "+w)
			}
		}
		rows = longer
	}
}

func TestParseOfPrintIsTheInstruction(t *testing.T) {
	edges(func(i api.Instr) {
		if s, e := isa.Print(i); e == api.OK {
			wantParse(t, s, i, api.OK)
		}
	})
}

func TestParseOfAnyBytes(t *testing.T) {
	rnd := rand.New(rand.NewSource(1))
	for range 20000 {
		b := make([]byte, rnd.Intn(20))
		rnd.Read(b)
		wantParseAsSlow(t, string(b))
		wantParseAsSlow(t, forms[rnd.Intn(len(forms))][0]+" "+string(b))
	}
}
