package regex_test

import (
	"math/rand"
	"regexp"
	"strconv"
	"strings"
	"testing"

	"castellan/api"
	"castellan/regex"
)

func wantParse(t *testing.T, s string, want expr) {
	t.Helper()
	if e, ge := regex.Parse(s); ge != api.OK || !equal(e, want) {
		t.Errorf("%q: %v, %d, not %v", s, e, ge, want)
	}
}

func wantRefused(t *testing.T, s string, fault api.Errno) {
	t.Helper()
	if e, ge := regex.Parse(s); ge != fault || !equal(e, expr{}) || e.List != nil {
		t.Errorf("%q: %v, %d, not %d", s, e, ge, fault)
	}
}

// The second reader tells all that a text can be read as, by chapter 5's words, part by part: a text may be cut anywhere.

const (
	someByte  = `(?:\\[\\.\[\]()|*+?{}^-]|\\x[0-9a-fA-F]{2}|[^\\.\[\]()|*+?{}])`
	someInSet = `(?:\\[\\.\[\]()|*+?{}^-]|\\x[0-9a-fA-F]{2}|[^\\\]^-])`
	someTimes = `(?:0|[1-9]|1[0-5])`
)

var (
	oneByte    = regexp.MustCompile(`^(?s:` + someByte + `)$`)
	wholeSet   = regexp.MustCompile(`^\[\^?(?s:` + someInSet + `(?:-` + someInSet + `)?)+\]$`)
	setPart    = regexp.MustCompile(`(?s:(` + someInSet + `)(?:-(` + someInSet + `))?)`)
	wholeTimes = regexp.MustCompile(`^\{(` + someTimes + `)(?:(,)(` + someTimes + `)?)?\}$`)
)

// runes is a text with a rune for each byte, as the expressions above go over runes.
func runes(s string) string {
	var b strings.Builder
	for i := range len(s) {
		b.WriteRune(rune(s[i]))
	}
	return b.String()
}

func slowOne(s string) int {
	r := []rune(s)
	if r[0] != '\\' {
		return int(r[0])
	}
	if r[1] != 'x' {
		return int(r[1])
	}
	n, _ := strconv.ParseUint(string(r[2:]), 16, 8)
	return int(n)
}

type slowReader map[string]exprs // what the alternatives were read as

func (r slowReader) alternative(s string) exprs {
	if l, ok := r[s]; ok {
		return l
	}
	var l exprs
	for _, rows := range r.rows(s) {
		if len(rows) == 1 {
			l = append(l, rows[0])
		} else {
			l = append(l, alt(rows...))
		}
	}
	r[s] = l
	return l
}

// rows is all ways to cut s in rows at its |.
func (r slowReader) rows(s string) []exprs {
	var ways []exprs
	for _, row := range r.row(s) {
		ways = append(ways, exprs{row})
	}
	for i := range len(s) {
		if s[i] != '|' {
			continue
		}
		for _, first := range r.row(s[:i]) {
			for _, rest := range r.rows(s[i+1:]) {
				ways = append(ways, append(exprs{first}, rest...))
			}
		}
	}
	return ways
}

func (r slowReader) row(s string) exprs {
	var l exprs
	for _, pieces := range r.pieces(s) {
		if len(pieces) == 1 {
			l = append(l, pieces[0])
		} else {
			l = append(l, seq(pieces...))
		}
	}
	return l
}

func (r slowReader) pieces(s string) []exprs {
	if s == "" {
		return []exprs{nil}
	}
	var ways []exprs
	for i := 1; i <= len(s); i++ {
		firsts := r.piece(s[:i])
		if len(firsts) == 0 {
			continue
		}
		for _, rest := range r.pieces(s[i:]) {
			for _, first := range firsts {
				ways = append(ways, append(exprs{first}, rest...))
			}
		}
	}
	return ways
}

func (r slowReader) piece(s string) exprs {
	l := r.atom(s)
	for i := 1; i < len(s); i++ {
		least, most, ok := slowSign(s[i:])
		if !ok {
			continue
		}
		for _, e := range r.atom(s[:i]) {
			l = append(l, rep(least, most, e))
		}
	}
	return l
}

func slowSign(s string) (int, int, bool) {
	switch s {
	case "*":
		return 0, never, true
	case "+":
		return 1, never, true
	case "?":
		return 0, 1, true
	}
	found := wholeTimes.FindStringSubmatch(s)
	if found == nil {
		return 0, 0, false
	}
	least, _ := strconv.Atoi(found[1])
	if found[2] == "" {
		return least, least, true
	}
	if found[3] == "" {
		return least, never, true
	}
	most, _ := strconv.Atoi(found[3])
	return least, most, least <= most
}

func (r slowReader) atom(s string) exprs {
	switch told := runes(s); {
	case s == ".":
		return exprs{{Set: allBytes}}
	case s[0] == '(' && s[len(s)-1] == ')' && len(s) > 1:
		return r.alternative(s[1 : len(s)-1])
	case oneByte.MatchString(told):
		return exprs{from(slowOne(told), slowOne(told))}
	case wholeSet.MatchString(told):
		return slowSetOf(told)
	}
	return nil
}

func slowSetOf(told string) exprs {
	body, others := told[1:len(told)-1], false
	if body[0] == '^' {
		body, others = body[1:], true
	}
	var e expr
	for _, part := range setPart.FindAllStringSubmatch(body, -1) {
		low := slowOne(part[1])
		high := low
		if part[2] != "" {
			high = slowOne(part[2])
		}
		if high < low {
			return nil
		}
		for i, word := range from(low, high).Set {
			e.Set[i] |= word
		}
	}
	for i := range e.Set {
		if others {
			e.Set[i] = ^e.Set[i]
		}
	}
	if e.Set == [4]uint64{} {
		return nil
	}
	return exprs{e}
}

// wantAsSlow holds Parse against the second reader, and tells whether s can be read.
func wantAsSlow(t *testing.T, s string) bool {
	t.Helper()
	ways := slowReader{}.alternative(s)
	switch {
	case len(ways) > 1:
		t.Fatalf("%q can be read in %d ways", s, len(ways))
	case len(s) > api.MaxPattern:
		wantRefused(t, s, api.ErrRegexLong)
	case len(ways) == 0:
		wantRefused(t, s, api.ErrRegexText)
	case slowSize(ways[0]) > api.MaxStates:
		wantRefused(t, s, api.ErrRegexLong)
	default:
		wantParse(t, s, ways[0])
		return true
	}
	return false
}

// P5.3

func TestExamples(t *testing.T) {
	for s, want := range map[string]string{
		"a(b|c)*": "a(b|c)*", "(a)": "a", "[a-cx]": "[a-cx]", "[cba]": "[a-c]", `[^\x00-\x60\x62-\xff]`: "a", `\x41\.`: `A\.`,
		"a{2,3}b{0}": "a{2,3}b{0}", "()|a": "|a", "(a*)*": "(a*)*", "": "",
	} {
		e, ge := regex.Parse(s)
		if ge != api.OK {
			t.Errorf("%q: %d", s, ge)
		}
		wantPrint(t, e, want)
	}
	for _, s := range []string{"*", "a**", "(", ")", "[", "[]", "[b-a]", "a{3,2}", "a{16}", "a{01}", `\`, `\a`, `\x1`, "{", `[^\x00-\xff]`} {
		wantRefused(t, s, api.ErrRegexText)
	}
	wantRefused(t, "((a{15}){15}){15}", api.ErrRegexLong)
	wantRefused(t, strings.Repeat("a", 129), api.ErrRegexLong)
	for s, size := range map[string]int{"a": 1, "ab": 3, "a|b": 3, "a{3}": 4, "a*": 2, "": 1} {
		e, _ := regex.Parse(s)
		wantSize(t, s, e, size)
	}
}

func TestParse(t *testing.T) {
	a, b, c, none := setOf("a"), setOf("b"), setOf("c"), seq()
	for _, x := range []struct {
		s    string
		want expr
	}{
		{"", none}, {"a", a}, {"ab", seq(a, b)}, {"abc", seq(a, b, c)}, {"a|b", alt(a, b)}, {"a|b|c", alt(a, b, c)},
		{"|", alt(none, none)}, {"||", alt(none, none, none)}, {"a|", alt(a, none)}, {"|a", alt(none, a)}, {"a||b", alt(a, none, b)},
		{"ab|c", alt(seq(a, b), c)}, {"a|bc", alt(a, seq(b, c))},
		{"()", none}, {"(())", none}, {"()()", seq(none, none)}, {"()a", seq(none, a)}, {"()*", rep(0, never, none)},
		{"(a)", a}, {"((a))", a}, {"(ab)", seq(a, b)}, {"(ab)c", seq(seq(a, b), c)}, {"a(bc)", seq(a, seq(b, c))}, {"(a)(b)", seq(a, b)},
		{"(a|b)", alt(a, b)}, {"(a|b)|c", alt(alt(a, b), c)}, {"a|(b|c)", alt(a, alt(b, c))}, {"(a)|(b)", alt(a, b)}, {"(|)", alt(none, none)},
		{"(a|b)c", seq(alt(a, b), c)}, {"a(b|c)*", seq(a, rep(0, never, alt(b, c)))}, {"((a|b)c)", seq(alt(a, b), c)},
		{"a*", rep(0, never, a)}, {"a+", rep(1, never, a)}, {"a?", rep(0, 1, a)}, {"ab*", seq(a, rep(0, never, b))}, {"a*b", seq(rep(0, never, a), b)},
		{"(ab)*", rep(0, never, seq(a, b))}, {"(a*)+", rep(1, never, rep(0, never, a))}, {"((a?)+)*", rep(0, never, rep(1, never, rep(0, 1, a)))},
		{".", expr{Set: allBytes}}, {".*", rep(0, never, expr{Set: allBytes})},
		{"^", setOf("^")}, {"-", setOf("-")}, {"a-c", seq(a, setOf("-"), c)}, {"^a", seq(setOf("^"), a)}, {"^*", rep(0, never, setOf("^"))},
		{",", setOf(",")}, {"0", setOf("0")}, {"x", setOf("x")}, {"\n", setOf("\n")}, {"\xe4", setOf("\xe4")}, {"ä", seq(setOf("\xc3"), setOf("\xa4"))},
	} {
		wantParse(t, x.s, x.want)
	}
}

func TestParseOfTimes(t *testing.T) {
	a := setOf("a")
	for least := range 120 {
		m := strconv.Itoa(least)
		if least > api.MaxRepeat {
			for _, s := range []string{"a{" + m + "}", "a{" + m + ",}", "a{" + m + "," + m + "}", "a{0," + m + "}"} {
				wantRefused(t, s, api.ErrRegexText)
			}
			continue
		}
		wantParse(t, "a{"+m+"}", rep(least, least, a))
		wantParse(t, "a{"+m+",}", rep(least, never, a))
		wantRefused(t, "a{0"+m+"}", api.ErrRegexText)
		wantRefused(t, "a{0"+m+",}", api.ErrRegexText)
		wantRefused(t, "a{0,0"+m+"}", api.ErrRegexText)
		for most := range 30 {
			s := "a{" + m + "," + strconv.Itoa(most) + "}"
			if most < least || most > api.MaxRepeat {
				wantRefused(t, s, api.ErrRegexText)
				continue
			}
			wantParse(t, s, rep(least, most, a))
		}
	}
}

func TestParseOfEachByte(t *testing.T) {
	letters := `\.[]()|*+?{}^-`
	for b := range 256 {
		s, one := string([]byte{byte(b)}), from(b, b)
		meant := strings.Contains(letters, s)
		if s == "." {
			wantParse(t, s, expr{Set: allBytes})
		} else if s == "|" {
			wantParse(t, s, alt(seq(), seq()))
		} else if meant && s != "^" && s != "-" {
			wantRefused(t, s, api.ErrRegexText)
		} else {
			wantParse(t, s, one)
		}
		if meant {
			wantParse(t, `\`+s, one)
			wantParse(t, `[\`+s+"]", one)
		} else {
			wantRefused(t, `\`+s, api.ErrRegexText)
			wantRefused(t, `[\`+s+"]", api.ErrRegexText)
		}
		if strings.Contains(`\]^-`, s) {
			wantRefused(t, "["+s+"]", api.ErrRegexText)
			wantRefused(t, "[a"+s+"]", api.ErrRegexText)
		} else {
			wantParse(t, "["+s+"]", one)
			wantParse(t, "["+s+s+"-"+s+"]", one)
		}
	}
}

func TestParseOfDigitsOfBaseSixteen(t *testing.T) {
	digits := "0123456789abcdefABCDEF"
	for i, upper := range digits {
		for j, lower := range digits {
			told := `\x` + string(upper) + string(lower)
			b := (i-i/16*6)*16 + j - j/16*6
			wantParse(t, told, from(b, b))
			wantParse(t, "["+told+"]", from(b, b))
			wantParse(t, "["+told+`-\xfF]`, from(b, 255))
			wantParse(t, told+"0", seq(from(b, b), setOf("0")))
		}
	}
	for b := range 256 {
		s := string([]byte{byte(b)})
		if strings.Contains(digits, s) {
			continue
		}
		for _, told := range []string{`\x` + s + "0", `\x0` + s, `\x` + s, `[\x` + s + "0]", `[\x0` + s + "]"} {
			wantRefused(t, told, api.ErrRegexText)
		}
	}
	for _, s := range []string{`\x`, `\x1`, `a\x`, `\X41`, `[\x]`, `[\x4]`, `(\x4)`, `\x4|`} {
		wantRefused(t, s, api.ErrRegexText)
	}
}

func TestParseOfSets(t *testing.T) {
	for s, want := range map[string]expr{
		"[a]": setOf("a"), "[ab]": setOf("ab"), "[ba]": setOf("ab"), "[aaa]": setOf("a"), "[a-c]": setOf("abc"), "[a-a]": setOf("a"), "[a-b]": setOf("ab"),
		"[a-cb-d]": setOf("abcd"), "[a-cx]": setOf("abcx"), "[xa-c]": setOf("abcx"), "[a-cA-C]": setOf("abcABC"), "[.]": setOf("."), "[*+?{}()|[.,]": setOf("*+?{}()|[.,"),
		"[[]": setOf("["), "[[-a]": from('[', 'a'), `[\]]`: setOf("]"), `[\\]`: setOf(`\`), `[\^]`: setOf("^"), `[\-]`: setOf("-"), `[\--0]`: from('-', '0'), `[+-\-]`: from('+', '-'),
		`[\\-\]]`: from('\\', ']'), `[a\^]`: setOf("a^"), `[a\-c]`: setOf("a-c"), "[^a]": setOfAllBut("a"), "[^a-c]": setOfAllBut("abc"), `[^\^]`: setOfAllBut("^"), "[^.]": setOfAllBut("."),
		`[\x00-\xff]`: {Set: allBytes}, "[\x00-\xff]": {Set: allBytes}, `[^\x01-\xff]`: setOf("\x00"), `[^\x00-\xfe]`: setOf("\xff"), `[\x3f-\x40]`: from(63, 64), "[(-)]": setOf("()"),
		"[0-9a-f]": setOf("0123456789abcdef"), "[^\n]": setOfAllBut("\n"), "[a|b]": setOf("a|b"),
	} {
		wantParse(t, s, want)
		wantParse(t, s+"*", rep(0, never, want))
		wantParse(t, "x"+s, seq(setOf("x"), want))
	}
	for _, s := range []string{
		"[", "[^", "[]", "[^]", "[a", "[^a", "[a-", "[a-]", "[-]", "[-a]", "[a-b-c]", "[a--]", "[b-a]", "[ab-a]", `[\x01-\x00]`, "[^b-a]", "[^^]", "[a^]", "[a-^]", "[^-a]", "[]a]", "[a]]", "[a-]]",
		`[\`, `[\]`, `[a\]`, `[\a]`, `[\n]`, `[a-\`, `[a-\]`, `[^\x00-\xff]`, `[^\x00-\x7f\x80-\xff]`, "[]-a]", "[a]-]", `[a-\x]`, "([)]",
	} {
		wantRefused(t, s, api.ErrRegexText)
	}
}

func setOfAllBut(s string) expr {
	e := setOf(s)
	for i := range e.Set {
		e.Set[i] = ^e.Set[i]
	}
	return e
}

func TestWhatCannotBeRead(t *testing.T) {
	for _, s := range []string{
		// a sign without an atom
		"*", "+", "?", "{1}", "{1,}", "{1,2}", "a|*", "(*)", "(+a)", "|?", "*a",
		// two signs
		"a**", "a*+", "a+?", "a??", "a*{2}", "a{2}*", "a{2}{2}", "(a)**",
		// brackets without their other ones
		"(", ")", "(a", "a)", "((a)", "(a))", ")(", "(|", "|)", "a(b", "]", "a]", "}", "a}", "{", "a{", "a{}", "{}",
		// times that are none
		"a{1", "a{1,", "a{1,2", "a{,}", "a{,2}", "a{a}", "a{1a}", "a{1,a}", "a{1;2}", "a{1,2,3}", "a{ 1}", "a{1 }", "a{1, 2}", "a{+1}", "a{-1}", "a{1,-1}",
		"a{00}", "a{01}", "a{1,02}", "a{0,00}", "a{16}", "a{16,}", "a{1,16}", "a{20}", "a{99}", "a{100}", "a{001}", "a{015}", "a{151}", "a{1,151}", "a{3,2}", "a{1,0}", "a{15,14}", "a{\x31\x00}", "a[{1}",
		// a \ without its letter
		`\`, `a\`, `\a`, `\n`, `\0`, `\ `, `\,`, "\\\x00", "\\\xff", `(\`, `(\)`, `\\\`,
	} {
		wantRefused(t, s, api.ErrRegexText)
		wantRefused(t, "b|"+s, api.ErrRegexText)
		wantRefused(t, "[(]b*|"+s, api.ErrRegexText)
	}
}

func TestParseOfDeepBrackets(t *testing.T) {
	for n := range 65 {
		open, shut := strings.Repeat("(", n), strings.Repeat(")", n)
		wantParse(t, open+shut, seq())
		if n < 64 {
			wantRefused(t, open+shut+")", api.ErrRegexText)
			wantRefused(t, "("+open+shut, api.ErrRegexText)
		}
	}
	want := setOf("a")
	for range 42 {
		want = rep(0, never, want)
	}
	wantParse(t, strings.Repeat("(", 41)+"a"+strings.Repeat("*)", 41)+"*", want)
}

func TestParseAtItsBounds(t *testing.T) {
	for n := 2; n < 300; n++ {
		s := strings.Repeat("a", n)
		if n > api.MaxPattern {
			wantRefused(t, s, api.ErrRegexLong)
			continue
		}
		wantParse(t, s, rowOf(n))
	}
	as := func(n int) string { return strings.Repeat("a", n) }
	for _, x := range []struct {
		s    string
		size int
		e    expr
	}{
		{"(" + as(16) + "){15}", 256, rep(15, 15, rowOf(16))},
		{"(" + as(16) + "){0,15}", 256, rep(0, 15, rowOf(16))},
		{"(" + as(50) + "){5,}", 256, rep(5, never, rowOf(50))},
		{"(" + as(63) + "){4}", 257, rep(4, 4, rowOf(63))},
		{"(" + as(63) + "){0,4}", 257, rep(0, 4, rowOf(63))},
		{"(" + as(63) + "){3,}", 193, rep(3, never, rowOf(63))},
		{"(" + as(16) + "){15}a", 258, seq(rep(15, 15, rowOf(16)), setOf("a"))},
		{"(" + as(16) + "){15}|", 258, alt(rep(15, 15, rowOf(16)), seq())},
	} {
		wantSize(t, x.s, x.e, x.size)
		if x.size > api.MaxStates {
			wantRefused(t, x.s, api.ErrRegexLong)
			continue
		}
		wantParse(t, x.s, x.e)
	}
	wantParse(t, as(124)+`\x00`, rowOf(124, from(0, 0)))
	wantRefused(t, as(125)+`\x00`, api.ErrRegexLong)
	wantRefused(t, as(126)+strings.Repeat("{", 1<<20), api.ErrRegexLong)
	grown := strings.Repeat("(", 20) + "a" + strings.Repeat("{15})", 20)
	wantRefused(t, grown, api.ErrRegexLong)
	wantRefused(t, grown+"{0}", api.ErrRegexLong)
	wantRefused(t, "("+grown, api.ErrRegexText)
}

func TestTheOrderOfParsesErrors(t *testing.T) {
	big := "((a{15}){15}){15}"
	wantRefused(t, big, api.ErrRegexLong)
	wantRefused(t, "("+big+")*", api.ErrRegexLong)
	wantRefused(t, big+"**", api.ErrRegexText)
	wantRefused(t, "*"+big, api.ErrRegexText)
	wantRefused(t, big+")", api.ErrRegexText)
	for n := 126; n < 132; n++ {
		want := api.ErrRegexText
		if n+2 > api.MaxPattern {
			want = api.ErrRegexLong
		}
		wantRefused(t, strings.Repeat("a", n)+"**", want)
		wantRefused(t, "()"+strings.Repeat("(", n), want)
	}
}

// everyText goes through all texts of n of these bytes.
func everyText(of string, n int, do func(s string)) {
	if n == 0 {
		do("")
		return
	}
	everyText(of, n-1, func(s string) {
		for i := range len(of) {
			do(s + of[i:i+1])
		}
	})
}

func TestParseOfAllShortTexts(t *testing.T) {
	for _, x := range []struct {
		of string
		n  int
	}{
		{`a0\.[]()|*+?{},^-x`, 3}, {"a()|*", 6}, {`[]^-ac`, 6}, {`[]^-\a`, 6}, {"a{015,}", 6}, {`\x0aFg`, 5}, {`[\x4]-`, 5},
	} {
		read, all := 0, 0
		for n := range x.n + 1 {
			everyText(x.of, n, func(s string) {
				all++
				if wantAsSlow(t, s) {
					read++
				}
			})
		}
		if read < x.n || read == all {
			t.Errorf("of %d texts of %q %d can be read", all, x.of, read)
		}
	}
}

// anyText is a pattern of an expression, with perhaps some bytes gone, changed, or more.
func anyText(rnd *rand.Rand, deep int) string {
	s, _ := regex.Print(anyExpr(rnd, deep))
	for range rnd.Intn(4) {
		i, part := rnd.Intn(len(s)+1), ""
		switch rnd.Intn(5) {
		case 0:
			part = string([]byte{byte(rnd.Intn(256))})
		case 1, 2:
			part = `\.[]()|*+?{}^-,0123456789abcdefx`
			part = part[rnd.Intn(len(part)):][:1]
		case 3:
			part = []string{"[^", "()", "(a)", "{1}", "{0,1}", "{2,}", `\x0F`, "a-b", "|", "[b-a]", "**"}[rnd.Intn(11)]
		}
		s = s[:i] + part + s[min(len(s), i+rnd.Intn(2)):]
	}
	return s
}

func TestParseOfAnyText(t *testing.T) {
	rnd := rand.New(rand.NewSource(54))
	read := 0
	for n := range 20000 {
		if s := anyText(rnd, n%4); len(s) < 40 && wantAsSlow(t, s) {
			read++
		}
	}
	if read < 5000 || read > 15000 {
		t.Errorf("%d can be read", read)
	}
}

func TestParseOfAnyBytes(t *testing.T) {
	rnd := rand.New(rand.NewSource(55))
	for n := range 20000 {
		b := make([]byte, n%10)
		rnd.Read(b)
		wantAsSlow(t, string(b))
	}
}

// P5.4

func TestParseOfPrintIsTheExpression(t *testing.T) {
	rnd := rand.New(rand.NewSource(56))
	told := 0
	for n := range 40000 {
		e := anyExpr(rnd, n%6)
		s, ge := regex.Print(e)
		if ge != api.OK {
			continue
		}
		told++
		wantParse(t, s, e)
	}
	if told < 20000 {
		t.Errorf("%d are told", told)
	}
}

// The pattern of what is read is read the same, if it is not too long.
func TestWhatIsReadMayBe(t *testing.T) {
	rnd := rand.New(rand.NewSource(57))
	read := 0
	for n := range 40000 {
		e, ge := regex.Parse(anyText(rnd, n%5))
		if ge != api.OK {
			continue
		}
		wantSize(t, "what is read", e, slowSize(e))
		if regex.Check(e) != api.OK {
			t.Fatalf("%v may not be", e)
		}
		if s, ge := regex.Print(e); ge == api.OK {
			read++
			wantParse(t, s, e)
		}
	}
	if read < 10000 {
		t.Errorf("%d are read", read)
	}
}

// R3, R4

// lists is all that stand in e, whole, with the room behind them.
func lists(e expr) []exprs {
	var l []exprs
	if cap(e.List) > 0 {
		l = append(l, e.List[:cap(e.List)])
	}
	for _, element := range e.List {
		l = append(l, lists(element)...)
	}
	return l
}

func TestListsOfAnAnswerAreApart(t *testing.T) {
	for _, s := range []string{"(ab)(cd)(ef)*|(a|b)|abc|()|", "ab|cd|ef", "((a|b)c)*", "abc(de)(fg)", "(a|b|c)(d|e|f)", "abcde"} {
		e, ge := regex.Parse(s)
		if ge != api.OK {
			t.Fatalf("%q: %d", s, ge)
		}
		marked := 0
		for _, l := range lists(e) {
			for i := range l {
				if l[i].Min == 77 {
					t.Errorf("%q: two lists share memory", s)
				}
				l[i].Min = 77
				marked++
			}
		}
		again, ge := regex.Parse(s)
		if marked == 0 || ge != api.OK || regex.Check(again) != api.OK {
			t.Errorf("%q: what is read later hangs on what was read", s)
		}
	}
}
