package isa_test

import (
	"fmt"
	"math/rand"
	"strings"
	"testing"

	"castellan/api"
	"castellan/isa"
)

func short(s string) string {
	if len(s) > 200 {
		return fmt.Sprintf("%.200q.. (%d bytes)", s, len(s))
	}
	return fmt.Sprintf("%q", s)
}

func wantAssemble(t *testing.T, text, program string, line int, e api.Errno) {
	t.Helper()
	if got, gl, ge := isa.Assemble(text); got != program || gl != line || ge != e {
		t.Errorf("Assemble(%s): %s, %d, %d, not %s, %d, %d", short(text), short(got), gl, ge, short(program), line, e)
	}
}

func wantAssembleAsSlow(t *testing.T, text string) {
	t.Helper()
	program, line, e := slowAssemble(text)
	wantAssemble(t, text, program, line, e)
}

func wantList(t *testing.T, program, text string, e api.Errno) {
	t.Helper()
	if got, ge := isa.List(program); got != text || ge != e {
		t.Errorf("List(%s): %s, %d, not %s, %d", short(program), short(got), ge, short(text), e)
	}
}

// text is lines, each with a line feed behind it.
func text(lines ...string) string {
	return strings.Join(lines, "\n") + "\n"
}

func TestAssemble(t *testing.T) {
	whole := text("a:", "plus r1 -1", "some r1 @a", "jump @b", "word 7", "b:", "stop")
	program := "\x13\x10\xff\xff\x1a\x10\xff\xfe\x18\x00\x00\x01\x00\x00\x00\x07\x01\x00\x00\x00"
	wantAssemble(t, whole, program, 0, api.OK)
	wantAssemble(t, strings.TrimSuffix(whole, "\n"), program, 0, api.OK)
	wantAssemble(t, strings.ReplaceAll(whole, "\n", "\n\n"), program, 0, api.OK)
	wantAssemble(t, "\n"+whole+"\n\n", program, 0, api.OK)

	wantAssemble(t, "a:\na:\n", "", 2, api.ErrIsaLabel)
	wantAssemble(t, "jump @a\n", "", 1, api.ErrIsaLabel)
	wantAssemble(t, "x\n", "", 1, api.ErrIsaText)
	wantAssemble(t, "", "", 0, api.OK)
	wantAssemble(t, "\n", "", 0, api.OK)
	wantAssemble(t, "\n\n\n", "", 0, api.OK)
	wantAssemble(t, "a:", "", 0, api.OK)
	wantAssemble(t, "stop", "\x01\x00\x00\x00", 0, api.OK)
}

func TestAssembleOfEachInstruction(t *testing.T) {
	for s, i := range told() {
		b, _ := slowEncode(i)
		wantAssemble(t, s, b, 0, api.OK)
		wantAssemble(t, text("nop", s, "stop"), "\x00\x00\x00\x00"+b+"\x01\x00\x00\x00", 0, api.OK)
	}
}

func TestWords(t *testing.T) {
	wantAssemble(t, "word 0", "\x00\x00\x00\x00", 0, api.OK)
	wantAssemble(t, "word 255\nword 256\nword 16909060", "\x00\x00\x00\xff\x00\x00\x01\x00\x01\x02\x03\x04", 0, api.OK)
	wantAssemble(t, "word 2147483648", "\x80\x00\x00\x00", 0, api.OK)
	wantAssemble(t, "word 4294967295", "\xff\xff\xff\xff", 0, api.OK)
	for _, s := range []string{
		"word", "word ", "word  7", " word 7", "word 7 ", "word 7 7", "word 07", "word 00", "word -0", "word -1", "word +1", "word r1", "word @a", "Word 7", "words 7", "word\t7", "word7",
		"word 4294967296", "word 9999999999", "word 18446744073709551616", "word 18446744073709551623", "word 0x7", "word 1_0", "word 1e3", "word 7\r",
	} {
		wantAssemble(t, s, "", 1, api.ErrIsaText)
		wantAssemble(t, "stop\n\n"+s+"\nx", "", 3, api.ErrIsaText)
	}
}

func TestLabels(t *testing.T) {
	for _, s := range []string{"a", "z", "a0", "z9", "abcdefghijkl", "a12345678901", "word", "nop", "r1", "jump"} {
		wantAssemble(t, text("stop", s+":", "jump @"+s), "\x01\x00\x00\x00\x18\x00\xff\xff", 0, api.OK)
	}
	for _, s := range []string{"", "0", "9a", "A", "aB", "a_b", "a-b", "a b", " a", "a ", "@a", "a:", ":a", "a@b", "abcdefghijklm", "a123456789012", "é", "a\x00", "a\r", "{", "`", "a/", "a`", "a{"} {
		wantAssemble(t, s+":", "", 1, api.ErrIsaText)
		wantAssemble(t, text("a:", "b:", "jump @"+s), "", 3, api.ErrIsaText)
	}
	wantAssemble(t, "a: ", "", 1, api.ErrIsaText)
	wantAssemble(t, "a:stop", "", 1, api.ErrIsaText)
	wantAssemble(t, "a: stop", "", 1, api.ErrIsaText)
	wantAssemble(t, text("a:", "jump @a:"), "", 2, api.ErrIsaText)
	wantAssemble(t, text("a:", "jump @a "), "", 2, api.ErrIsaText)
}

func TestEachByteOfALabel(t *testing.T) {
	for b := range 256 {
		for _, label := range []string{string([]byte{byte(b)}), "a" + string([]byte{byte(b)})} {
			wantAssembleAsSlow(t, label+":")
			wantAssembleAsSlow(t, "jump @"+label+"\na:\naa:\na0:")
		}
	}
}

// Only four operations have a label in the place of their number.
func TestInstructionsWithLabels(t *testing.T) {
	for op, form := range forms {
		line := form[0]
		for _, f := range form[1:] {
			switch f {
			case "A":
				line += " r3"
			case "B":
				line += " r4"
			default:
				line += " @a"
			}
		}
		switch form[0] {
		case "jump":
			wantAssemble(t, text("a:", line), "\x18\x00\xff\xff", 0, api.OK)
		case "zero", "some", "call":
			wantAssemble(t, text("a:", line), string([]byte{byte(op)})+"\x30\xff\xff", 0, api.OK)
		default:
			if strings.Contains(line, "@") {
				wantAssemble(t, text("a:", line), "", 2, api.ErrIsaText)
			}
			wantAssemble(t, text("a:", form[0]+" @a"), "", 2, api.ErrIsaText)
			wantAssemble(t, text("a:", line+" @a"), "", 2, api.ErrIsaText)
		}
	}
	for _, s := range []string{"jump 1@a", "jump -@a", "jump@a", "jump  @a", " jump @a", "jump r1 @a", "jump @a 1", "jump 1 @a", "jump @a @a", "jump @a@a", "jump @@a", "jump @", "@a", " @a", "zero @a", "zero r@a", "zero r1@a", "zero r01 @a", "zero r16 @a", "zero r1 r2 @a", "zero @a r1", "zero @r1", "call r1 @a\r", "Jump @a", "plus r1 @a", "set r1 @a", "ask @a", "get4 r1 r2 @a", "stop @a", "word @a"} {
		wantAssemble(t, text("a:", s), "", 2, api.ErrIsaText)
	}
}

func TestWays(t *testing.T) {
	nops := func(n int) string { return strings.Repeat("nop\n", n) }
	noughts := func(n int) string { return strings.Repeat("\x00", 4*n) }
	for _, n := range []int{0, 1, 2, 126, 127, 128, 254, 255, 256, 257, 1000, 1023} {
		on := string([]byte{byte(n >> 8), byte(n)})
		wantAssemble(t, "jump @a\n"+nops(n)+"a:", "\x18\x00"+on+noughts(n), 0, api.OK)
		back := string([]byte{byte((-n - 1) >> 8), byte(-n - 1)})
		wantAssemble(t, "a:\n"+nops(n)+"zero r5 @a", noughts(n)+"\x19\x50"+back, 0, api.OK)
	}
	// Words are bytes of the program, as instructions are; empty lines and labels are not.
	wantAssemble(t, text("jump @a", "", "x:", "word 5", "", "y:", "a:"), "\x18\x00\x00\x01\x00\x00\x00\x05", 0, api.OK)
	wantAssemble(t, text("a:", "b:", "call r15 @b", "jump @c", "some r1 @a", "c:"), "\x1c\xf0\xff\xff\x18\x00\x00\x01\x1a\x10\xff\xfd", 0, api.OK)
}

func TestTheOrderOfAssemblesErrors(t *testing.T) {
	full := strings.Repeat("nop\n", 1024)
	// The first line with which something is wrong, whatever is wrong with those behind it.
	wantAssemble(t, text("a:", "x", "a:"), "", 2, api.ErrIsaText)
	wantAssemble(t, text("a:", "a:", "x"), "", 2, api.ErrIsaLabel)
	wantAssemble(t, text("nop", "x", "y"), "", 2, api.ErrIsaText)
	wantAssemble(t, full+text("nop", "x"), "", 1025, api.ErrIsaLong)
	wantAssemble(t, full+text("x", "nop"), "", 1025, api.ErrIsaText)
	wantAssemble(t, "a:\n"+full+text("a:", "nop"), "", 1026, api.ErrIsaLabel)
	wantAssemble(t, full+text("a:", "", "nop"), "", 1027, api.ErrIsaLong)
	// Labels that are not there come behind all that.
	wantAssemble(t, text("jump @no", "a:", "a:"), "", 3, api.ErrIsaLabel)
	wantAssemble(t, text("jump @no", "x"), "", 2, api.ErrIsaText)
	wantAssemble(t, full+"jump @no", "", 1025, api.ErrIsaLong)
	wantAssemble(t, "jump @no\n"+full, "", 1025, api.ErrIsaLong)
	wantAssemble(t, text("a:", "jump @a", "", "jump @no", "jump @nor"), "", 4, api.ErrIsaLabel)
	wantAssemble(t, text("jump @a", "a:", "some r1 @aa"), "", 3, api.ErrIsaLabel)
	// One that stands twice is told where it stands again, even if nothing leads to it.
	wantAssemble(t, text("a:", "b:", "nop", "c:", "b:"), "", 5, api.ErrIsaLabel)
}

func TestAssembleAtItsBounds(t *testing.T) {
	full := strings.Repeat("stop\n", 1024)
	program := strings.Repeat("\x01\x00\x00\x00", 1024)
	wantAssemble(t, full, program, 0, api.OK)
	wantAssemble(t, full+"end:", program, 0, api.OK)
	wantAssemble(t, full+"stop", "", 1025, api.ErrIsaLong)
	wantAssemble(t, full+"word 1", "", 1025, api.ErrIsaLong)

	feeds := func(n int) string { return strings.Repeat("\n", n) }
	wantAssemble(t, feeds(32768), "", 0, api.OK)
	wantAssemble(t, feeds(32769), "", 0, api.ErrIsaLong)
	wantAssemble(t, feeds(32764)+"stop", "\x01\x00\x00\x00", 0, api.OK)
	wantAssemble(t, feeds(32765)+"stop", "", 0, api.ErrIsaLong)
	wantAssemble(t, feeds(32767)+"x", "", 32768, api.ErrIsaText)
	wantAssemble(t, "x"+feeds(32768), "", 0, api.ErrIsaLong)
	wantAssemble(t, full+full+feeds(32768), "", 0, api.ErrIsaLong)
	wantAssemble(t, strings.Repeat("x", 32768), "", 1, api.ErrIsaText)
	wantAssemble(t, strings.Repeat("x", 1<<20), "", 0, api.ErrIsaLong)
}

func TestManyLabels(t *testing.T) {
	lines, ways := "", ""
	for n := range 1000 {
		lines += fmt.Sprintf("l%d:\nnop\n", n)
	}
	for n := range 24 {
		ways += fmt.Sprintf("jump @l%d\n", 999-n)
	}
	wantAssembleAsSlow(t, lines+ways)
	wantAssembleAsSlow(t, ways+lines)
	wantAssembleAsSlow(t, ways+lines+"nop\n")
}

// anyLine is a line that may be right, for the most part.
func anyLine(rnd *rand.Rand) string {
	label := fmt.Sprintf("l%d", rnd.Intn(12))
	i := anyInstr(rnd)
	switch rnd.Intn(16) {
	case 0:
		return ""
	case 1, 2:
		return label + ":"
	case 3:
		return fmt.Sprint("word ", rnd.Uint32())
	case 4:
		return "jump @" + label
	case 5:
		return fmt.Sprintf("%s r%d @%s", []string{"zero", "some", "call", "call"}[rnd.Intn(4)], rnd.Intn(16), label)
	}
	s, _ := slowPrint(i)
	return s
}

func anyInstr(rnd *rand.Rand) api.Instr {
	for {
		i, e := slowDecode(string([]byte{byte(rnd.Intn(30)), byte(rnd.Intn(256)), byte(rnd.Intn(256)), byte(rnd.Intn(256))}))
		if e == api.OK {
			return i
		}
		// Most forms do not have all fields.
		i, e = slowDecode(string([]byte{byte(rnd.Intn(30)), byte(rnd.Intn(16) * 16), 0, 0}))
		if e == api.OK {
			return i
		}
	}
}

func TestAssembleOfAnyLines(t *testing.T) {
	rnd := rand.New(rand.NewSource(2))
	right, wrong := 0, map[api.Errno]int{}
	for range 20000 {
		var lines []string
		for n := range rnd.Intn(20) {
			line := anyLine(rnd)
			if n < 13 && rnd.Intn(3) > 0 {
				line = fmt.Sprintf("l%d:", n)
			}
			lines = append(lines, line)
		}
		s := strings.Join(lines, "\n")
		if s != "" && rnd.Intn(6) == 0 {
			at := rnd.Intn(len(s))
			s = s[:at] + string([]byte{" 0r@:\n-x"[rnd.Intn(8)]}) + s[at+rnd.Intn(2):]
		}
		wantAssembleAsSlow(t, s)
		_, _, e := slowAssemble(s)
		if e == api.OK {
			right++
		} else {
			wrong[e]++
		}
	}
	if right < 500 || wrong[api.ErrIsaText] < 500 || wrong[api.ErrIsaLabel] < 500 {
		t.Errorf("too few of a kind: %d right, wrong %v", right, wrong)
	}
}

func TestAssembleOfNearLines(t *testing.T) {
	lines := []string{"a:", "abcdefghijkl:", "word 7", "word 4294967295", "jump @a", "zero r1 @a", "some r15 @a", "call r0 @a", "jump -2", "get4 r1 r2 300"}
	for _, s := range lines {
		near(s, func(s string) {
			wantAssembleAsSlow(t, s)
			wantAssembleAsSlow(t, "nop\na:\nnop\n"+s+"\n")
		})
	}
}

func TestList(t *testing.T) {
	wantList(t, "\x01\x00\x00\x00\xff\x00\x00\x01", "stop\nword 4278190081\n", api.OK)
	wantList(t, "", "", api.OK)
	wantList(t, "\x00\x00\x00\x00", "nop\n", api.OK)
	wantList(t, "\x00\x00\x00\x01", "word 1\n", api.OK)
	wantList(t, "\xff\xff\xff\xff\x80\x00\x00\x00\x1e\x00\x00\x00", "word 4294967295\nword 2147483648\nword 503316480\n", api.OK)
	wantList(t, "\x18\x00\xff\xfe\x15\x12\x01\x2c\x18\x10\xff\xfe", "jump -2\nget4 r1 r2 300\nword 403767294\n", api.OK)
	for n := 1; n < 40; n++ {
		if n%4 != 0 {
			wantList(t, strings.Repeat("\x00", n), "", api.ErrIsaWord)
		}
	}
	wantList(t, strings.Repeat("\x01\x00\x00\x00", 1024), strings.Repeat("stop\n", 1024), api.OK)
	wantList(t, strings.Repeat("\x00", 4095), "", api.ErrIsaWord)
	wantList(t, strings.Repeat("\x00", 4097), "", api.ErrIsaLong)
	wantList(t, strings.Repeat("\x00", 4100), "", api.ErrIsaLong)
	wantList(t, strings.Repeat("\x00", 1<<20+1), "", api.ErrIsaLong)
}

func TestListOfEachInstruction(t *testing.T) {
	for s, i := range told() {
		b, _ := slowEncode(i)
		wantList(t, b, s+"\n", api.OK)
	}
}

func TestAssembleOfListIsTheProgram(t *testing.T) {
	rnd := rand.New(rand.NewSource(3))
	for _, n := range []int{0, 1, 2, 3, 10, 100, 1023, 1024} {
		for range 20 {
			var b []byte
			for range n {
				w := make([]byte, 4)
				rnd.Read(w)
				if rnd.Intn(3) > 0 {
					s, _ := slowEncode(anyInstr(rnd))
					w = []byte(s)
				}
				b = append(b, w...)
			}
			listed, e := slowList(string(b))
			wantList(t, string(b), listed, e)
			wantAssemble(t, listed, string(b), 0, api.OK)
		}
	}
	// The longest lines of all: a whole program of them is not too long a text.
	for _, w := range []string{"\x16\xff\xff\xff", "\xff\xff\xff\xff", "\x11\xff\x00\x00"} {
		program := strings.Repeat(w, 1024)
		listed, _ := isa.List(program)
		wantAssemble(t, listed, program, 0, api.OK)
	}
}
