package isa_test

import (
	"fmt"
	"math/big"
	"regexp"
	"strings"

	"castellan/api"
)

// forms are chapter 9's table once more: by their numbers the names, and what the forms say.
var forms = [][]string{
	{"nop"}, {"stop"}, {"set", "A", "U"}, {"high", "A", "U"}, {"move", "A", "B"}, {"add", "A", "B"},
	{"sub", "A", "B"}, {"mul", "A", "B"}, {"div", "A", "B"}, {"rem", "A", "B"}, {"and", "A", "B"}, {"or", "A", "B"},
	{"xor", "A", "B"}, {"not", "A"}, {"shl", "A", "B"}, {"shr", "A", "B"}, {"less", "A", "B"}, {"below", "A", "B"},
	{"same", "A", "B"}, {"plus", "A", "S"}, {"get1", "A", "B", "U"}, {"get4", "A", "B", "U"}, {"put1", "A", "B", "U"}, {"put4", "A", "B", "U"},
	{"jump", "S"}, {"zero", "A", "S"}, {"some", "A", "S"}, {"to", "A"}, {"call", "A", "S"}, {"ask", "U"},
}

func instr(op, a, b, imm int) api.Instr { return api.Instr{Op: op, A: a, B: b, Imm: imm} }

// slowMay: may an instruction be? Each field stands between what its form says; one that the form does not have stands between 0 and 0.
func slowMay(i api.Instr) bool {
	if i.Op < 0 || i.Op >= len(forms) {
		return false
	}
	least, most := map[string]int{"S": -32768}, map[string]int{}
	for _, f := range forms[i.Op][1:] {
		most[f] = map[string]int{"A": 15, "B": 15, "U": 65535, "S": 32767}[f]
	}
	if most["S"] == 0 {
		least["S"] = 0
	}
	return 0 <= i.A && i.A <= most["A"] && 0 <= i.B && i.B <= most["B"] && least["S"] <= i.Imm && i.Imm <= most["U"]+most["S"]
}

func slowEncode(i api.Instr) (string, api.Errno) {
	if !slowMay(i) {
		return "", api.ErrIsaForm
	}
	imm := (i.Imm + 65536) % 65536
	return string([]byte{byte(i.Op), byte(i.A*16 + i.B), byte(imm / 256), byte(imm % 256)}), api.OK
}

// slowDecode tries both numbers that Imm's bytes may stand for.
func slowDecode(s string) (api.Instr, api.Errno) {
	if len(s) == 4 {
		imm := int(s[2])*256 + int(s[3])
		for _, n := range []int{imm, imm - 65536} {
			i := instr(int(s[0]), int(s[1])/16, int(s[1])%16, n)
			if b, e := slowEncode(i); e == api.OK && b == s {
				return i, api.OK
			}
		}
	}
	return api.Instr{}, api.ErrIsaWord
}

func slowPrint(i api.Instr) (string, api.Errno) {
	if !slowMay(i) {
		return "", api.ErrIsaForm
	}
	told := map[string]string{"A": fmt.Sprint("r", i.A), "B": fmt.Sprint("r", i.B), "U": fmt.Sprint(i.Imm), "S": fmt.Sprint(i.Imm)}
	l := []string{forms[i.Op][0]}
	for _, f := range forms[i.Op][1:] {
		l = append(l, told[f])
	}
	return strings.Join(l, " "), api.OK
}

var (
	slowRegister = regexp.MustCompile(`\Ar(0|[1-9][0-9]*)\z`)
	slowNumber   = regexp.MustCompile(`\A(0|-?[1-9][0-9]*)\z`)
	slowLabel    = regexp.MustCompile(`\A[a-z][a-z0-9]{0,11}\z`)
	slowWord     = regexp.MustCompile(`\Aword (0|[1-9][0-9]*)\z`)
	slowWay      = regexp.MustCompile(`\A((?:jump|(?:zero|some|call) r(?:0|[1-9]|1[0-5])) )@([a-z][a-z0-9]{0,11})\z`)
)

// bounded is a number, or one beyond all bounds.
func bounded(s string) int {
	n, _ := new(big.Int).SetString(s, 10)
	if !n.IsInt64() {
		return 1 << 62
	}
	return int(n.Int64())
}

// slowParse holds each word against what the form asks for there.
func slowParse(s string) (api.Instr, api.Errno) {
	words := strings.Split(s, " ")
	for op, form := range forms {
		if form[0] != words[0] || len(form) != len(words) {
			continue
		}
		i, fits := instr(op, 0, 0, 0), true
		for k, f := range form[1:] {
			w, into := words[k+1], map[string]*int{"A": &i.A, "B": &i.B, "U": &i.Imm, "S": &i.Imm}[f]
			if pattern := map[bool]*regexp.Regexp{true: slowRegister, false: slowNumber}[f == "A" || f == "B"]; pattern.MatchString(w) {
				*into = bounded(strings.TrimPrefix(w, "r"))
			} else {
				fits = false
			}
		}
		if fits && slowMay(i) {
			return i, api.OK
		}
	}
	return api.Instr{}, api.ErrIsaText
}

// slowLine is a line's bytes, ahead of all labels being known, or what is wrong with it.
func slowLine(line string) (string, api.Errno) {
	if m := slowWord.FindStringSubmatch(line); m != nil {
		if n := bounded(m[1]); n < 1<<32 {
			return string([]byte{byte(n / 16777216), byte(n / 65536 % 256), byte(n / 256 % 256), byte(n % 256)}), api.OK
		}
		return "", api.ErrIsaText
	}
	if m := slowWay.FindStringSubmatch(line); m != nil {
		line = m[1] + "0"
	}
	i, e := slowParse(line)
	if e != api.OK {
		return "", e
	}
	return slowEncode(i)
}

func slowAssemble(text string) (string, int, api.Errno) {
	if len(text) > 32768 {
		return "", 0, api.ErrIsaLong
	}
	lines := strings.Split(text, "\n")
	if lines[len(lines)-1] == "" {
		lines = lines[:len(lines)-1]
	}
	at, places := 0, map[string]int{}
	for n, line := range lines {
		if line == "" {
			continue
		}
		if label := strings.TrimSuffix(line, ":"); label != line && slowLabel.MatchString(label) {
			if _, stood := places[label]; stood {
				return "", n + 1, api.ErrIsaLabel
			}
			places[label] = at
			continue
		}
		b, e := slowLine(line)
		if e != api.OK {
			return "", n + 1, api.ErrIsaText
		}
		if at += len(b); at > 4096 {
			return "", n + 1, api.ErrIsaLong
		}
	}
	return slowLink(lines, places)
}

// slowLink goes over the lines once more, all of which are right, with all labels known.
func slowLink(lines []string, places map[string]int) (string, int, api.Errno) {
	program := ""
	for n, line := range lines {
		if line == "" || strings.HasSuffix(line, ":") {
			continue
		}
		if m := slowWay.FindStringSubmatch(line); m != nil {
			place, known := places[m[2]]
			if !known {
				return "", n + 1, api.ErrIsaLabel
			}
			line = m[1] + fmt.Sprint((place-len(program)-4)/4)
		}
		b, _ := slowLine(line)
		program += b
	}
	return program, 0, api.OK
}

func slowList(program string) (string, api.Errno) {
	if len(program) > 4096 {
		return "", api.ErrIsaLong
	}
	if len(program)%4 != 0 {
		return "", api.ErrIsaWord
	}
	text := ""
	for ; program != ""; program = program[4:] {
		line := fmt.Sprint("word ", new(big.Int).SetBytes([]byte(program[:4])))
		if i, e := slowDecode(program[:4]); e == api.OK {
			line, _ = slowPrint(i)
		}
		text += line + "\n"
	}
	return text, api.OK
}
