package regex

import (
	"strconv"
	"strings"

	"castellan/api"
)

const (
	letters  = rowBarred + "^-" // those with a meaning
	hexUnit  = 16
	hexDigit = "0123456789abcdef"
)

// Print is the pattern of an expression.
func Print(e api.Regex) (string, api.Errno) {
	if fault := Check(e); fault != api.OK {
		return "", fault
	}
	s := pattern(e)
	if len(s) > api.MaxPattern {
		return "", api.ErrRegexLong
	}
	return s, api.OK
}

// pattern is that of an expression that may be.
func pattern(e api.Regex) string {
	if e.Kind == api.RegexSet {
		return setPattern(e.Set)
	}
	l := make([]string, len(e.List))
	for i, element := range e.List {
		l[i] = pattern(element)
		if needsBrackets(e.Kind, element.Kind) {
			l[i] = "(" + l[i] + ")"
		}
	}
	switch e.Kind {
	case api.RegexAlt:
		return strings.Join(l, "|")
	case api.RegexRep:
		return l[0] + sign(e.Min, e.Max)
	}
	return strings.Join(l, "")
}

// needsBrackets tells whether an element would not stand for itself in what it is an element of.
func needsBrackets(of, element int) bool {
	switch of {
	case api.RegexRep:
		return element != api.RegexSet
	case api.RegexSeq:
		return element == api.RegexAlt || element == api.RegexSeq
	}
	return element == api.RegexAlt
}

// sign says how often.
func sign(least, most int) string {
	switch {
	case least == 0 && most == endless:
		return "*"
	case least == 1 && most == endless:
		return "+"
	case least == 0 && most == 1:
		return "?"
	case most == least:
		return "{" + strconv.Itoa(least) + "}"
	case most == endless:
		return "{" + strconv.Itoa(least) + ",}"
	}
	return "{" + strconv.Itoa(least) + "," + strconv.Itoa(most) + "}"
}

func setPattern(s set) string {
	if s == allBytes() {
		return "."
	}
	rows, count := "", 0
	for low := 0; low < byteValues; low++ {
		if !s.has(low) {
			continue
		}
		high := low
		for high+1 < byteValues && s.has(high+1) {
			high++
		}
		rows += rowPattern(low, high)
		count += high - low + 1
		low = high
	}
	if count == 1 {
		return rows
	}
	return "[" + rows + "]"
}

// rowPattern is the bytes from low to high, as they stand in a set.
func rowPattern(low, high int) string {
	switch high - low {
	case 0:
		return bytePattern(low)
	case 1:
		return bytePattern(low) + bytePattern(high)
	}
	return bytePattern(low) + "-" + bytePattern(high)
}

// bytePattern is a byte as it is told.
func bytePattern(b int) string {
	switch {
	case b < ' ' || b > '~':
		return `\x` + hexDigit[b/hexUnit:b/hexUnit+1] + hexDigit[b%hexUnit:b%hexUnit+1]
	case strings.IndexByte(letters, byte(b)) >= 0:
		return `\` + string([]byte{byte(b)})
	}
	return string([]byte{byte(b)})
}
