package isa

import (
	"strconv"
	"strings"

	"castellan/api"
)

const (
	blank    = " "
	register = "r"
)

// Print is an instruction's text.
func Print(i api.Instr) (string, api.Errno) {
	o, found := operationOf(i.Op)
	if !found || !o.form.fits(i) {
		return "", api.ErrIsaForm
	}
	s := o.name
	if o.form.has(fieldA) {
		s += blank + register + strconv.Itoa(i.A)
	}
	if o.form.has(fieldB) {
		s += blank + register + strconv.Itoa(i.B)
	}
	if o.form.has(unsigned | signed) {
		s += blank + strconv.Itoa(i.Imm)
	}
	return s, api.OK
}

// Parse is the instruction of a text.
func Parse(s string) (api.Instr, api.Errno) {
	i, ok := read(s)
	if !ok {
		return api.Instr{}, api.ErrIsaText
	}
	// What was read too kindly, as noughts ahead or words in another order, is told otherwise than it stood.
	if told, e := Print(i); e != api.OK || told != s {
		return api.Instr{}, api.ErrIsaText
	}
	return i, api.OK
}

// read takes each word behind the name for what it looks like: the registers for A and B as they come, a number for Imm.
func read(s string) (api.Instr, bool) {
	name, rest, more := strings.Cut(s, blank)
	op, ok := numberOf(name)
	i := api.Instr{Op: op}
	fields := []*int{&i.A, &i.B}
	word := ""
next:
	if !ok || !more {
		return i, ok
	}
	word, rest, more = strings.Cut(rest, blank)
	if number, is := strings.CutPrefix(word, register); is && len(fields) > 0 {
		*fields[0], ok = digits(number)
		fields = fields[1:]
	} else {
		i.Imm, ok = digits(word)
	}
	goto next
}

// digits is the number of a text; false, if it is none.
func digits(s string) (int, bool) {
	n, fault := strconv.Atoi(s)
	return n, fault == nil
}
