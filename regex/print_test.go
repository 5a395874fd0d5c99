package regex_test

import (
	"encoding/hex"
	"math/rand"
	"slices"
	"strconv"
	"strings"
	"testing"

	"castellan/api"
	"castellan/regex"
)

func wantPrint(t *testing.T, e expr, want string) {
	t.Helper()
	if s, ge := regex.Print(e); s != want || ge != api.OK {
		t.Errorf("%v: %q, %d, not %q", e, s, ge, want)
	}
}

// wantLong: neither may it be told, nor is any of it.
func wantLong(t *testing.T, what string, e expr) {
	t.Helper()
	if s, ge := regex.Print(e); s != "" || ge != api.ErrRegexLong {
		t.Errorf("%s: Print %q, %d, not %d", what, s, ge, api.ErrRegexLong)
	}
}

// slowByte is a byte as it is told, by chapter 5's words once more.
func slowByte(b byte) string {
	switch b {
	case '\\', '.', '[', ']', '(', ')', '|', '*', '+', '?', '{', '}', '^', '-':
		return "\\" + string(rune(b))
	}
	if b >= 32 && b <= 126 {
		return string(rune(b))
	}
	return "\\x" + hex.EncodeToString([]byte{b})
}

// slowSet is the pattern of a set, by a map of its bytes.
func slowSet(s [4]uint64) string {
	in, l := map[int]bool{}, []int{}
	for b := range 256 {
		if s[b/64]&(1<<(b%64)) != 0 {
			in[b], l = true, append(l, b)
		}
	}
	switch len(l) {
	case 256:
		return "."
	case 1:
		return slowByte(byte(l[0]))
	}
	told := "["
	for _, b := range l {
		first, last := !in[b-1], !in[b+1]
		switch {
		case first || last:
			told += slowByte(byte(b))
		case !in[b-2]: // the second of three or more
			told += "-"
		}
	}
	return told + "]"
}

// P5.2

func TestPrint(t *testing.T) {
	a, b, c := setOf("a"), setOf("b"), setOf("c")
	for _, x := range []struct {
		e    expr
		want string
	}{
		{seq(), ""},
		{expr{Kind: api.RegexSeq, List: exprs{}}, ""},
		{a, "a"},
		{seq(a, b), "ab"},
		{seq(a, b, c), "abc"},
		{alt(a, b), "a|b"},
		{alt(a, b, c), "a|b|c"},
		{seq(a, rep(0, never, alt(b, c))), "a(b|c)*"},
		{seq(rep(2, 3, a), rep(0, 0, b)), "a{2,3}b{0}"},
		{alt(seq(), a), "|a"},
		{rep(0, never, rep(0, never, a)), "(a*)*"},
		{seq(a, setOf(".")), `a\.`},
	} {
		wantPrint(t, x.e, x.want)
	}
}

// Brackets stand where they are needed, and nowhere else.
func TestPrintOfBrackets(t *testing.T) {
	a, empty, row, two, star := setOf("a"), seq(), text("bc"), alt(setOf("d"), text("ef")), rep(0, never, setOf("g"))
	for _, x := range []struct {
		e    expr
		want string
	}{
		{seq(a, a), "aa"}, {seq(empty, a), "()a"}, {seq(a, empty), "a()"}, {seq(row, a), "(bc)a"}, {seq(a, row), "a(bc)"},
		{seq(two, a), "(d|ef)a"}, {seq(a, two), "a(d|ef)"}, {seq(star, a), "g*a"}, {seq(a, star), "ag*"},
		{seq(empty, empty), "()()"}, {seq(row, two, star, a), "(bc)(d|ef)g*a"},
		{alt(a, a), "a|a"}, {alt(empty, a), "|a"}, {alt(a, empty), "a|"}, {alt(empty, empty), "|"}, {alt(empty, empty, empty), "||"},
		{alt(row, a), "bc|a"}, {alt(a, row), "a|bc"}, {alt(two, a), "(d|ef)|a"}, {alt(a, two), "a|(d|ef)"},
		{alt(star, a), "g*|a"}, {alt(a, star), "a|g*"}, {alt(row, two, star, empty), "bc|(d|ef)|g*|"},
		{rep(0, never, a), "a*"}, {rep(0, never, empty), "()*"}, {rep(0, never, row), "(bc)*"}, {rep(0, never, two), "(d|ef)*"}, {rep(0, never, star), "(g*)*"},
		{rep(0, never, setOf("ac")), "[ac]*"}, {rep(0, never, expr{Set: allBytes}), ".*"}, {rep(0, never, setOf("*")), `\**`},
		{seq(seq(row, a), a), "((bc)a)a"}, {alt(alt(two, a), a), "((d|ef)|a)|a"}, {rep(2, 2, rep(0, 1, rep(1, never, row))), "(((bc)+)?){2}"},
	} {
		wantPrint(t, x.e, x.want)
	}
}

func TestPrintOfTimes(t *testing.T) {
	for least := range api.MaxRepeat + 1 {
		for most := least; most <= api.MaxRepeat; most++ {
			want := "a{" + strconv.Itoa(least) + "," + strconv.Itoa(most) + "}"
			switch {
			case least == 0 && most == 1:
				want = "a?"
			case least == most:
				want = "a{" + strconv.Itoa(least) + "}"
			}
			wantPrint(t, rep(least, most, setOf("a")), want)
		}
		want := "a{" + strconv.Itoa(least) + ",}"
		switch least {
		case 0:
			want = "a*"
		case 1:
			want = "a+"
		}
		wantPrint(t, rep(least, never, setOf("a")), want)
	}
	for want, e := range map[string]expr{
		"a{0}": rep(0, 0, setOf("a")), "a{1}": rep(1, 1, setOf("a")), "a{15}": rep(15, 15, setOf("a")), "a{15,}": rep(15, never, setOf("a")),
		"a{0,15}": rep(0, 15, setOf("a")), "a{1,2}": rep(1, 2, setOf("a")), "a{9,10}": rep(9, 10, setOf("a")), "a{2,}": rep(2, never, setOf("a")),
	} {
		wantPrint(t, e, want)
	}
}

func TestPrintOfEachByte(t *testing.T) {
	for b := range 256 {
		wantPrint(t, from(b, b), slowByte(byte(b)))
	}
	for want, b := range map[string]byte{
		`\x00`: 0, `\x09`: 9, `\x0a`: 10, `\x1f`: 31, " ": 32, "!": 33, "~": 126, `\x7f`: 127, `\x80`: 128, `\xab`: 171, `\xff`: 255,
		"0": '0', "x": 'x', ",": ',', "/": '/', "\"": '"', "_": '_',
		`\\`: '\\', `\.`: '.', `\[`: '[', `\]`: ']', `\(`: '(', `\)`: ')', `\|`: '|', `\*`: '*', `\+`: '+', `\?`: '?', `\{`: '{', `\}`: '}', `\^`: '^', `\-`: '-',
	} {
		wantPrint(t, setOf(string([]byte{b})), want)
	}
}

func TestPrintOfSets(t *testing.T) {
	for _, x := range []struct {
		e    expr
		want string
	}{
		{expr{Set: allBytes}, "."},
		{setOf("ba"), "[ab]"},
		{setOf("cab"), "[a-c]"},
		{setOf("abcd"), "[a-d]"},
		{setOf("xcba"), "[a-cx]"},
		{setOf("ac"), "[ac]"},
		{setOf("ace"), "[ace]"},
		{setOf("abde"), "[abde]"},
		{setOf("abcefghij"), "[a-ce-j]"},
		{setOf("acdefhi"), "[ac-fhi]"},
		{from(0, 254), `[\x00-\xfe]`},
		{from(1, 255), `[\x01-\xff]`},
		{from(254, 255), `[\xfe\xff]`},
		{from(253, 255), `[\xfd-\xff]`},
		{from(0, 1), `[\x00\x01]`},
		{from(0, 2), `[\x00-\x02]`},
		{setOf("\x00\xff"), `[\x00\xff]`},
		{from(63, 64), `[\?@]`},
		{from(62, 65), `[>-A]`},
		{from(126, 129), `[~-\x81]`},
		{from(191, 192), `[\xbf\xc0]`},
		{from(31, 33), `[\x1f-!]`},
		{setOf("^]-\\"), `[\-\\-\^]`}, // \ ] ^ stand next to one another
		{setOf(".[("), `[\(\.\[]`},
		{from('*', '.'), `[\*-\.]`},
	} {
		wantPrint(t, x.e, x.want)
	}
}

func TestPrintOfAnySet(t *testing.T) {
	rnd := rand.New(rand.NewSource(53))
	long := 0
	for range 20000 {
		e := anySet(rnd)
		for range rnd.Intn(4) {
			e.Set[rnd.Intn(4)] = rnd.Uint64() | 1
		}
		want := slowSet(e.Set)
		if len(want) > api.MaxPattern {
			long++
			wantLong(t, "a set of many rows", e)
			continue
		}
		wantPrint(t, e, want)
	}
	if long < 100 || long > 10000 {
		t.Errorf("%d are too long", long)
	}
}

// empties is so many empty rows.
func empties(n int) exprs {
	l := make(exprs, n)
	for i := range l {
		l[i] = seq()
	}
	return l
}

// rowOf is n times a, two at least, and more behind them.
func rowOf(n int, more ...expr) expr {
	return seq(append(slices.Repeat(exprs{setOf("a")}, n), more...)...)
}

func TestPrintAtItsBound(t *testing.T) {
	a := setOf("a")
	for n := 120; n <= 140; n++ {
		as := func(less int) string { return strings.Repeat("a", n-less) }
		for _, x := range []struct {
			want string
			e    expr
		}{
			{as(0), rowOf(n)},
			{as(1) + "*", rowOf(n-2, rep(0, never, a))},
			{as(5) + "{1,2}", rowOf(n-6, rep(1, 2, a))},
			{as(4) + `\x00`, rowOf(n-4, from(0, 0))},
			{as(2) + `\^`, rowOf(n-2, setOf("^"))},
			{as(5) + "[b-d]", rowOf(n-5, setOf("bcd"))},
			{as(2) + "()", rowOf(n-2, seq())},
			{as(2) + "|b", alt(rowOf(n-2), setOf("b"))},
			{"(" + as(3) + ")*", rep(0, never, rowOf(n-3))},
			{strings.Repeat("|", n), alt(empties(n + 1)...)},
		} {
			if len(x.want) != n {
				t.Fatalf("%q is not %d long", x.want, n)
			}
			if n > api.MaxPattern {
				wantLong(t, x.want, x.e)
				continue
			}
			wantPrint(t, x.e, x.want)
		}
	}
}

func TestTheOrderOfPrintsErrors(t *testing.T) {
	wantLong(t, "too big, a short pattern", rep(15, 15, rep(15, 15, rep(15, 15, setOf("a")))))
	wantLong(t, "too big, a long pattern", sized(300))
	wantLong(t, "just too big", sized(257))
	wantLong(t, "as big as may be, a long pattern", sized(256))
	wantPrint(t, rep(15, 15, sized(17)), "(aaaaaaaaaaaaaaaa){15}")
	wantLong(t, "a long set", expr{Set: [4]uint64{0x5555555555555555, 0x5555555555555555, 0x5555555555555555, 0x5555555555555555}})
	wantNone(t, "too big, a long pattern, and may not be", seq(sized(300), expr{}))
	wantNone(t, "a long pattern, and may not be", seq(sized(200), expr{}))
}
