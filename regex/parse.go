package regex

import (
	"strings"

	"castellan/api"
)

const (
	rowBarred = `\.[]()|*+?{}` // no bytes of a row, but behind a \
	setBarred = `\]^-`         // no bytes of a set, but behind a \
)

// Parse is the expression of a pattern.
func Parse(s string) (told api.Regex, fault api.Errno) {
	if len(s) > api.MaxPattern {
		return api.Regex{}, api.ErrRegexLong
	}
	defer func() {
		// A reader gives up for one reason alone.
		if recover() != nil {
			told, fault = api.Regex{}, api.ErrRegexText
		}
	}()
	r := &reader{rest: s}
	told = r.alternative()
	refuseIf(r.rest != "")
	if Size(told) == tooBig {
		return api.Regex{}, api.ErrRegexLong
	}
	return told, api.OK
}

// reader goes over a pattern, and gives up by panic.
type reader struct {
	rest string
}

func refuseIf(bad bool) {
	if bad {
		panic(api.ErrRegexText)
	}
}

// alternative reads rows, up to the end of what they stand in: of a pattern, or of brackets.
func (r *reader) alternative() api.Regex {
	var rows, row []api.Regex
piece:
	if r.rest == "" || r.rest[0] == ')' {
		goto end
	}
	if r.takes('|') {
		rows, row = append(rows, together(api.RegexSeq, row)), nil
		goto piece
	}
	row = append(row, r.piece())
	goto piece
end:
	return together(api.RegexAlt, append(rows, together(api.RegexSeq, row)))
}

// together is one expression of several: one alone is itself.
func together(kind int, l []api.Regex) api.Regex {
	if len(l) == 1 {
		return l[0]
	}
	return api.Regex{Kind: kind, List: l}
}

// piece reads an atom, and its sign, if there is one.
func (r *reader) piece() api.Regex {
	atom := r.atom()
	switch {
	case r.takes('*'):
		return repeated(atom, 0, endless)
	case r.takes('+'):
		return repeated(atom, 1, endless)
	case r.takes('?'):
		return repeated(atom, 0, 1)
	case r.takes('{'):
		least, most := r.times()
		return repeated(atom, least, most)
	}
	return atom
}

func repeated(e api.Regex, least, most int) api.Regex {
	return api.Regex{Kind: api.RegexRep, Min: least, Max: most, List: []api.Regex{e}}
}

// times reads how often, behind the { and up to the }.
func (r *reader) times() (int, int) {
	least := r.number()
	if r.takes('}') {
		return least, least
	}
	r.wants(',')
	if r.takes('}') {
		return least, endless
	}
	most := r.number()
	r.wants('}')
	refuseIf(!areTimes(least, most))
	return least, most
}

// number reads one of MaxRepeat at most; behind a nought ahead it ends, so that no digit may follow there.
func (r *reader) number() int {
	n := r.digit()
	if n > 0 && r.rest != "" && isDigit(r.rest[0]) {
		n = 10*n + r.digit()
	}
	refuseIf(n > api.MaxRepeat)
	return n
}

func (r *reader) digit() int {
	b := r.take()
	refuseIf(!isDigit(b))
	return int(b - '0')
}

func isDigit(b byte) bool {
	return '0' <= b && b <= '9'
}

// atom reads an alternative between brackets, or a set, or a byte.
func (r *reader) atom() api.Regex {
	switch {
	case r.takes('('):
		e := r.alternative()
		r.wants(')')
		return e
	case r.takes('['):
		return anyOf(r.setBytes())
	case r.takes('.'):
		return anyOf(allBytes())
	}
	b := r.byteBut(rowBarred)
	return anyOf(set{}.with(b, b))
}

func anyOf(s set) api.Regex {
	return api.Regex{Kind: api.RegexSet, Set: s}
}

// setBytes reads which bytes a set has, behind the [ and up to the ].
func (r *reader) setBytes() set {
	var s set
	others := r.takes('^')
bytes:
	low := r.byteBut(setBarred)
	high := low
	if r.takes('-') {
		high = r.byteBut(setBarred)
	}
	refuseIf(high < low)
	s = s.with(low, high)
	if !r.takes(']') {
		goto bytes
	}
	if others {
		s = s.others()
	}
	refuseIf(s == set{})
	return s
}

// byteBut reads a byte that is none of those barred, or any one behind a \.
func (r *reader) byteBut(barred string) int {
	b := r.take()
	if b == '\\' {
		return r.escaped()
	}
	refuseIf(strings.IndexByte(barred, b) >= 0)
	return int(b)
}

// escaped reads what tells a byte behind a \.
func (r *reader) escaped() int {
	if r.takes('x') {
		upper := r.hex()
		return hexUnit*upper + r.hex()
	}
	b := r.take()
	refuseIf(strings.IndexByte(letters, b) < 0)
	return int(b)
}

// hex reads a digit of base sixteen, of any case.
func (r *reader) hex() int {
	b := r.take()
	if 'A' <= b && b <= 'F' {
		b += 'a' - 'A'
	}
	n := strings.IndexByte(hexDigit, b)
	refuseIf(n < 0)
	return n
}

func (r *reader) take() byte {
	refuseIf(r.rest == "")
	b := r.rest[0]
	r.rest = r.rest[1:]
	return b
}

// takes tells whether b stands next, and takes it if so.
func (r *reader) takes(b byte) bool {
	if r.rest == "" || r.rest[0] != b {
		return false
	}
	r.rest = r.rest[1:]
	return true
}

func (r *reader) wants(b byte) {
	refuseIf(!r.takes(b))
}
