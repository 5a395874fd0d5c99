package isa

import (
	"strconv"
	"strings"

	"castellan/api"
)

const (
	lineEnd   = "\n"
	labelEnd  = ":"
	labelSign = "@"
	wordName  = "word"
	decimal   = 10
)

// assembly is what was made of the lines so far.
type assembly struct {
	program []byte
	places  map[string]int // of the labels
	ways    []way
}

// A way is an instruction whose number hangs on a label's place, which may stand further on: till then it is 0.
type way struct {
	line, at int
	label    string
}

// Assemble is the program of a text, or the first line that is wrong.
func Assemble(text string) (string, int, api.Errno) {
	if len(text) > api.MaxSource {
		return "", 0, api.ErrIsaLong
	}
	a := assembly{places: map[string]int{}}
	number := 0
	for line := range strings.Lines(text) {
		number++
		if e := a.add(strings.TrimSuffix(line, lineEnd), number); e != api.OK {
			return "", number, e
		}
	}
	for _, w := range a.ways {
		if e := a.lead(w); e != api.OK {
			return "", w.line, e
		}
	}
	return string(a.program), 0, api.OK
}

// add puts what a line says behind all others.
func (a *assembly) add(line string, number int) api.Errno {
	if line == "" {
		return api.OK
	}
	if label, is := strings.CutSuffix(line, labelEnd); is {
		return a.name(label)
	}
	bytes, label, ok := bytesOf(line)
	if !ok {
		return api.ErrIsaText
	}
	if len(a.program)+len(bytes) > api.MaxProgram {
		return api.ErrIsaLong
	}
	if label != "" {
		a.ways = append(a.ways, way{number, len(a.program), label})
	}
	a.program = append(a.program, bytes...)
	return api.OK
}

// name gives a label to the place behind all lines so far.
func (a *assembly) name(label string) api.Errno {
	if !isLabel(label) {
		return api.ErrIsaText
	}
	if _, found := a.places[label]; found {
		return api.ErrIsaLabel
	}
	a.places[label] = len(a.program)
	return api.OK
}

// lead puts in the number of a way.
func (a *assembly) lead(w way) api.Errno {
	place, found := a.places[w.label]
	if !found {
		return api.ErrIsaLabel
	}
	behind := w.at + wordSize
	i, _ := Decode(string(a.program[w.at:behind]))
	i.Imm = (place - behind) / wordSize
	bytes, e := Encode(i)
	if e != api.OK {
		return api.ErrIsaLabel
	}
	copy(a.program[w.at:], bytes)
	return api.OK
}

// bytesOf is the four bytes of a line, and the label in the place of its number, if there is one.
func bytesOf(line string) (bytes, label string, ok bool) {
	if number, is := strings.CutPrefix(line, wordName+blank); is {
		bytes, ok = wordOf(number)
		return bytes, "", ok
	}
	i, label, ok := instructionOf(line)
	if !ok {
		return "", "", false
	}
	bytes, e := Encode(i)
	return bytes, label, e == api.OK
}

// wordOf is the bytes of a number, as it stands in a line.
func wordOf(s string) (string, bool) {
	n, fault := strconv.ParseUint(s, decimal, wordSize*byteBits)
	if fault != nil || strconv.FormatUint(n, decimal) != s {
		return "", false
	}
	var b [wordSize]byte
	for i := range b {
		b[wordSize-1-i] = byte(n >> (i * byteBits))
	}
	return string(b[:]), true
}

// instructionOf is the instruction of a line, and the label in the place of its number, if there is one.
func instructionOf(line string) (api.Instr, string, bool) {
	ahead, label, found := strings.Cut(line, labelSign)
	if !found {
		i, e := Parse(line)
		return i, "", e == api.OK
	}
	// Ahead of the label must stand a blank: the 0 would be one more digit of anything else.
	if !strings.HasSuffix(ahead, blank) || !isLabel(label) {
		return api.Instr{}, "", false
	}
	i, e := Parse(ahead + "0")
	return i, label, e == api.OK && leadsOn(i.Op)
}

// leadsOn tells whether an operation's number says where the program goes on.
func leadsOn(op int) bool {
	switch op {
	case api.OpJump, api.OpZero, api.OpSome, api.OpCall:
		return true
	}
	return false
}

func isLabel(s string) bool {
	if s == "" || len(s) > api.MaxLabel || !isLetter(s[0]) {
		return false
	}
	for _, b := range []byte(s) {
		if !isLetter(b) && (b < '0' || b > '9') {
			return false
		}
	}
	return true
}

func isLetter(b byte) bool {
	return 'a' <= b && b <= 'z'
}

// List is a program's text.
func List(program string) (string, api.Errno) {
	if len(program) > api.MaxProgram {
		return "", api.ErrIsaLong
	}
	if len(program)%wordSize != 0 {
		return "", api.ErrIsaWord
	}
	var text strings.Builder
	for at := 0; at < len(program); at += wordSize {
		text.WriteString(lineOf(program[at:at+wordSize]) + lineEnd)
	}
	return text.String(), api.OK
}

// lineOf tells four bytes.
func lineOf(bytes string) string {
	if i, e := Decode(bytes); e == api.OK {
		s, _ := Print(i)
		return s
	}
	n := uint64(0)
	for _, b := range []byte(bytes) {
		n = n<<byteBits | uint64(b)
	}
	return wordName + blank + strconv.FormatUint(n, decimal)
}
