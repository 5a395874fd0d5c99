package match_test

import (
	"math"
	"math/rand"
	"regexp"
	"slices"
	"strings"
	"testing"

	"castellan/api"
	"castellan/match"
	"castellan/regex"
)

func repeated(s string, n int) string { return strings.Repeat(s, n) }

// The chapter's examples.

func TestExamples(t *testing.T) {
	for _, x := range []struct {
		pattern, s string
		is         bool
		hits       pairs
	}{
		{"a(b|c)*", "abcb", true, pairs{{0, 4}}}, {"a(b|c)*", "ab a", false, pairs{{0, 2}, {3, 4}}}, {"a(b|c)*", "", false, nil},
		{"a*", "aab", false, pairs{{0, 2}}}, {"a*", "b", false, nil},
		{"a|ab|abc", "xabcab", false, pairs{{1, 4}, {4, 6}}},
		{"(a*)*b", repeated("a", 255), false, nil},
		{"(aa)+", "aaaaa", false, pairs{{0, 4}}},
	} {
		m := of(t, x.pattern)
		wantIs(t, x.pattern, m, x.s, x.is)
		wantHits(t, x.pattern, m, x.s, x.hits)
	}
	wantTooLong(t, of(t, "(a*)*b"), repeated("a", 257))
	wantNoMachine(t, "(", api.ErrRegexText)
}

// P6.1

func wantNoMachine(t *testing.T, pattern string, want api.Errno) {
	t.Helper()
	if m, fault := match.Of(pattern); m != nil || fault != want {
		t.Errorf("%q: %v, %d, not %d", pattern, m, fault, want)
	}
}

func wantNew(t *testing.T, what string, e expr, want api.Errno) {
	t.Helper()
	if m, fault := match.New(e); fault != want || (m != nil) != (want == api.OK) {
		t.Errorf("%s: %v, %d, not %d", what, m, fault, want)
	}
	if fault := regex.Check(e); fault != want {
		t.Errorf("%s: Check %d, not %d", what, fault, want)
	}
}

func TestNewOfWhatMayNotBe(t *testing.T) {
	a, big := setOf("a"), rep(15, 15, rep(15, 15, setOf("ab")))
	big = seq(big, big)
	for _, x := range []struct {
		what string
		e    expr
		want api.Errno
	}{
		{"an empty set", expr{}, api.ErrRegexForm},
		{"a set with an element", expr{Set: a.Set, List: exprs{a}}, api.ErrRegexForm},
		{"a set with times", expr{Set: a.Set, Max: 1}, api.ErrRegexForm},
		{"no such kind", expr{Kind: api.RegexKinds}, api.ErrRegexForm},
		{"no such kind below", expr{Kind: -1}, api.ErrRegexForm},
		{"a row of one", seq(a), api.ErrRegexForm},
		{"a row with a set", expr{Kind: api.RegexSeq, Set: a.Set}, api.ErrRegexForm},
		{"an alternative of none", alt(), api.ErrRegexForm},
		{"an alternative of one", alt(a), api.ErrRegexForm},
		{"a repeat of none", expr{Kind: api.RegexRep, Max: never}, api.ErrRegexForm},
		{"a repeat of two", expr{Kind: api.RegexRep, Max: never, List: exprs{a, a}}, api.ErrRegexForm},
		{"Min below 0", rep(-1, 1, a), api.ErrRegexForm},
		{"Min and Max -1", rep(-1, -1, a), api.ErrRegexForm},
		{"Min above 15", rep(16, never, a), api.ErrRegexForm},
		{"Max above 15", rep(0, 16, a), api.ErrRegexForm},
		{"Max below -1", rep(0, -2, a), api.ErrRegexForm},
		{"Max below Min", rep(3, 2, a), api.ErrRegexForm},
		{"a Max without bounds", rep(0, math.MaxInt, a), api.ErrRegexForm},
		{"an element that may not be", seq(a, alt(a, rep(0, never, expr{}))), api.ErrRegexForm},
		{"too big", big, api.ErrRegexLong},
		{"a size of 257", sized(257), api.ErrRegexLong},
		{"a size of 256", sized(256), api.OK},
		{"too big, and an element that may not be behind", seq(big, expr{}), api.ErrRegexForm},
		{"too big, and an element that may not be ahead", seq(expr{}, big), api.ErrRegexForm},
		{"too big, as what may not be is repeated", rep(0, 15, rep(0, 15, rep(0, 15, expr{}))), api.ErrRegexForm},
		{"the empty row", seq(), api.OK},
		{"one in another, as deep as may be", deep(1 << 16), api.ErrRegexLong},
	} {
		wantNew(t, x.what, x.e, x.want)
	}
}

// sized has the size n, of 3 or above.
func sized(n int) expr { return seq(slices.Repeat(exprs{setOf("a")}, n-1)...) }

func deep(n int) expr {
	e := setOf("a")
	for range n - 1 {
		e = rep(0, never, e)
	}
	return e
}

func TestOfWhatCannotBeRead(t *testing.T) {
	for _, s := range []string{"(", ")", "*", "a**", "[", "[b-a]", "a{16}", "a{3,2}", `\`, `[^\x00-\xff]`, "((a{15}){15}){15})", repeated("a", 127) + "("} {
		wantNoMachine(t, s, api.ErrRegexText)
	}
	for _, s := range []string{"((a{15}){15}){15}", repeated("a", 129), repeated("(", 129), "(" + repeated("a", 63) + "){4}", "(" + repeated("a", 16) + "){15}b"} {
		wantNoMachine(t, s, api.ErrRegexLong)
	}
}

func TestOfIsNewOfWhatIsRead(t *testing.T) {
	for _, s := range []string{"", "a", "a|", "()*", "a{0}", "(ab?c{2,3}|[^a]+)*", ".{15}", `\x00|\xff`, repeated("a", 128), "(" + repeated("a", 16) + "){15}"} {
		e := parsed(t, s)
		for _, m := range []*match.Machine{of(t, s), made(t, e)} {
			for _, x := range []string{"", "a", "ab", "b", "\x00", "x\xff", repeated("a", 15), repeated("ab", 8)} {
				wantAsSlow(t, s, m, e, x)
			}
			wantIs(t, s, m, repeated("a", 128), slow{repeated("a", 128)}.is(e))
			wantIs(t, s, m, repeated("a", 240), slow{repeated("a", 240)}.is(e))
		}
	}
}

// P6.2

// wantTooLong holds what all calls answer of a text that is too long.
func wantTooLong(t *testing.T, m *match.Machine, s string) {
	t.Helper()
	if is, fault := m.Is(s); is || fault != api.ErrMatchLong {
		t.Errorf("of %d bytes: Is %v, %d", len(s), is, fault)
	}
	for _, from := range []int{-1, 0, 1, 255, 256, 257, len(s) - 1, len(s), len(s) + 1} {
		wantHit(t, "too long", m, s, from, 0, 0, false)
	}
	wantHits(t, "too long", m, s, nil)
}

func TestIs(t *testing.T) {
	for _, x := range []struct{ pattern, in, out string }{
		{"", "", "a b \x00 aa"},
		{"a", "a", " b aa ba ab A \x01 \xe1"},
		{"ab", "ab", " a b ba abb aab"},
		{"ab|c", "ab c", " a b ac abc"},
		{"|a", "a ", "b aa"},
		{"a*", "a aa aaa ", "b ab ba aba"},
		{"a+", "a aa aaa", " b ab"},
		{"a?", "a ", "aa b"},
		{"a{0}", "", "a aa b"},
		{"a{1}", "a", " aa"},
		{"a{3}", "aaa", " a aa aaaa"},
		{"a{2,3}", "aa aaa", " a aaaa"},
		{"a{2,}", "aa aaa aaaa aaaaa", " a"},
		{"a{0,2}", "a aa ", "aaa b"},
		{"(ab){2,3}", "abab ababab", " ab abababab abba aba"},
		{"(a?){3}", "a aa aaa ", "aaaa"},
		{"(a|b){2}", "aa ab ba bb", " a b aaa"},
		{"(a|bc)*d", "d ad bcd abcad", " bd abd cd dd"},
		{"a*a", "a aa aaa", " b"},
		{"(a*b)*", "b ab aabab bb ", "a ba aba"},
		{"[a-c]x", "ax bx cx", "dx x a"},
		{"[^a]", "b \x00 \xff -", " a bb"},
		{".", "a \x00 \xff \n", " ab"},
	} {
		m := of(t, x.pattern)
		for _, s := range strings.Split(x.in, " ") {
			wantIs(t, x.pattern, m, s, true)
		}
		for _, s := range strings.Split(x.out, " ") {
			if s == "" && slices.Contains(strings.Split(x.in, " "), "") {
				continue
			}
			wantIs(t, x.pattern, m, s, false)
		}
	}
}

func TestIsAtItsBound(t *testing.T) {
	for pattern, all := range map[string]bool{".*": true, "a*": true, "(a|b)*": true, "a{15}": false, "b": false, "": false} {
		m := of(t, pattern)
		for n := 250; n <= api.MaxSubject; n++ {
			wantIs(t, pattern, m, repeated("a", n), all)
		}
		for _, n := range []int{257, 258, 300, 512, 1 << 16} {
			wantTooLong(t, m, repeated("a", n))
			wantTooLong(t, m, repeated("b", n))
		}
	}
	m := of(t, "a*b")
	wantIs(t, "a*b", m, repeated("a", 255)+"b", true)
	wantIs(t, "a*b", m, repeated("a", 256), false)
	wantTooLong(t, m, repeated("a", 256)+"b")
	wantHits(t, "a*b", m, repeated("a", 255)+"b", pairs{{0, 256}})
	wantHit(t, "a*b", m, repeated("a", 255)+"b", 255, 255, 256, true)
	wantHit(t, "a*b", m, repeated("a", 255)+"b", 256, 0, 0, false)
}

func TestNothing(t *testing.T) {
	for pattern, want := range map[string]bool{
		"": true, "()": true, "a": false, ".": false, "a*": true, "a+": false, "a?": true, "a{0}": true, "a{0,}": true, "a{0,5}": true, "a{1}": false, "a{2,}": false, "a{15}": false,
		"a|": true, "|a": true, "a|b": false, "a*b": false, "ab*": false, "a*b*": true, "a?b*(c|d{0})": true, "a*b?c": false,
		"()*": true, "()+": true, "(){15}": true, "(a*)+": true, "(a?){15}": true, "(a|b*)+": true, "(a|b+)+": false, "((a?)+b{0}){3,}": true, "(a?b){0,1}c": false,
	} {
		m := of(t, pattern)
		if m.Nothing() != want {
			t.Errorf("%q: Nothing is not %v", pattern, want)
		}
		wantIs(t, pattern, m, "", want)
	}
}

// P6.3

func TestHit(t *testing.T) {
	for _, x := range []struct {
		pattern, s       string
		from, begin, end int
		ok               bool
	}{
		{"ab", "xabab", 0, 1, 3, true}, {"ab", "xabab", 1, 1, 3, true}, {"ab", "xabab", 2, 3, 5, true}, {"ab", "xabab", 3, 3, 5, true}, {"ab", "xabab", 4, 0, 0, false},
		{"ab", "xabab", 5, 0, 0, false}, {"ab", "xabab", 6, 0, 0, false}, {"ab", "xabab", -1, 0, 0, false},
		{"ab", "xabab", math.MaxInt, 0, 0, false}, {"ab", "xabab", math.MinInt, 0, 0, false},
		{"a", "a", 0, 0, 1, true}, {"a", "a", 1, 0, 0, false}, {"a", "a", 2, 0, 0, false}, {"a", "", 0, 0, 0, false}, {"a", "", 1, 0, 0, false}, {"a", "", -1, 0, 0, false},
		{"", "aa", 0, 0, 0, false}, {"", "", 0, 0, 0, false}, {"a*", "bba", 0, 2, 3, true}, {"a*", "bb", 0, 0, 0, false}, {"(|a)b*", "cab", 0, 1, 3, true},
		// the first place goes before the longest text
		{"a|bbb", "abbb", 0, 0, 1, true}, {"a|bbb", "abbb", 1, 1, 4, true}, {"b+|ab", "abbb", 0, 0, 2, true},
		// the longest text goes before the first element
		{"a|ab", "ab", 0, 0, 2, true}, {"ab|a", "ab", 0, 0, 2, true}, {"(a|ab)(c|bcd)", "abcd", 0, 0, 4, true}, {"a?ab?", "aab", 0, 0, 3, true},
		// the longest one may lie behind places at which none ends
		{"a|abcd", "abcd", 0, 0, 4, true}, {"a|abcd", "abce", 0, 0, 1, true}, {"(ab)*", "ababa", 0, 0, 4, true}, {"a(..)*", "abcdef", 0, 0, 5, true},
		// from within what an earlier place would have hit
		{"abc|c", "abc", 1, 2, 3, true}, {"a+", "aaaa", 2, 2, 4, true}, {"(aa)+", "aaaaa", 1, 1, 5, true},
	} {
		wantHit(t, x.pattern, of(t, x.pattern), x.s, x.from, x.begin, x.end, x.ok)
	}
}

func TestHits(t *testing.T) {
	for _, x := range []struct {
		pattern, s string
		want       pairs
	}{
		{"a", "", nil}, {"", "abc", nil}, {"()*", "abc", nil}, {"a", "bbb", nil}, {"a", "aaa", pairs{{0, 1}, {1, 2}, {2, 3}}}, {"a", "bab", pairs{{1, 2}}},
		{"a*", "baab", pairs{{1, 3}}}, {"a*", "aabaaa", pairs{{0, 2}, {3, 6}}}, {"a?", "aab", pairs{{0, 1}, {1, 2}}}, {"a{2}", "aaaaa", pairs{{0, 2}, {2, 4}}}, {"a{2,3}", "aaaaaa", pairs{{0, 3}, {3, 6}}},
		{"a{2,3}", "aaaaa", pairs{{0, 3}, {3, 5}}}, {"a{2,3}", "aaaa", pairs{{0, 3}}}, {"aba", "ababa", pairs{{0, 3}}}, {"aba|ba", "ababa", pairs{{0, 3}, {3, 5}}}, {".", "\x00\xff", pairs{{0, 1}, {1, 2}}},
		{".*", "abc", pairs{{0, 3}}}, {"[0-9]+", "id=17;x9", pairs{{3, 5}, {7, 8}}}, {"[^a]+", "bbabab", pairs{{0, 2}, {3, 4}, {5, 6}}}, {"ä", "xäy", pairs{{1, 3}}},
	} {
		m := of(t, x.pattern)
		wantHits(t, x.pattern, m, x.s, x.want)
		wantAsSlow(t, x.pattern, m, parsed(t, x.pattern), x.s)
	}
	var each pairs
	for i := range 256 {
		each = append(each, [2]int{i, i + 1})
	}
	wantHits(t, ".", of(t, "."), repeated("a", 256), each)
	wantHits(t, "a{15}", of(t, "a{15}"), repeated("a", 31), pairs{{0, 15}, {15, 30}})
}

// A set has just its bytes, whichever of its numbers tells of them.
func TestEachByte(t *testing.T) {
	var all strings.Builder
	for b := range 256 {
		all.WriteByte(byte(b))
	}
	every := all.String()
	for b := range 256 {
		s := every[b : b+1]
		m, others := made(t, setOf(s)), made(t, setOf(every[:b]+every[b+1:]))
		wantHits(t, "one byte", m, every, pairs{{b, b + 1}})
		wantIs(t, "one byte", m, s, true)
		wantIs(t, "all but one byte", others, s, false)
		wantIs(t, "all but one byte", others, every[(b+1)%256:][:1], true)
		wantIs(t, "all", made(t, anyByte), s, true)
	}
	wantHits(t, "all", made(t, rep(0, never, anyByte)), every, pairs{{0, 256}})
	wantHits(t, "all but one byte", made(t, rep(0, never, setOf(every[:64]+every[65:]))), every, pairs{{0, 64}, {65, 256}})
}

func TestTimes(t *testing.T) {
	for least := range api.MaxRepeat + 1 {
		for most := least; most <= api.MaxRepeat+1; most++ {
			bound := most
			if most > api.MaxRepeat {
				bound = never
			}
			wantTimes(t, least, bound)
		}
	}
}

func wantTimes(t *testing.T, least, most int) {
	t.Helper()
	one, two := made(t, rep(least, most, setOf("a"))), made(t, rep(least, most, seq(setOf("a"), rep(0, 1, setOf("b")))))
	for n := range 40 {
		is := n >= least && (n <= most || most == never)
		wantIs(t, "times", one, repeated("a", n), is)
		wantIs(t, "times", one, repeated("a", n)+"b", false)
		wantIs(t, "times of a row", two, repeated("a", n), is)
		wantIs(t, "times of a row", two, repeated("ab", n), is)
		wantIs(t, "times of a row", two, repeated("ab", n)+"b", false)
	}
}

// The empty text repeated any number of times is the empty text.
func TestTheEmptyTextRepeated(t *testing.T) {
	none, a := seq(), setOf("a")
	inner := exprs{
		none, rep(0, 0, a), rep(0, never, none), rep(1, never, none), rep(15, 15, none), rep(0, 0, none),
		rep(0, never, a), rep(0, 1, a), alt(none, a), alt(a, none), alt(none, none), seq(none, none), seq(rep(0, never, a), rep(0, never, setOf("b"))), rep(2, never, rep(0, 1, a)),
		rep(0, never, rep(0, never, rep(0, never, a))), rep(1, never, alt(rep(0, never, a), rep(1, never, setOf("b")))), rep(2, 3, alt(a, rep(0, never, none))),
	}
	for _, e := range inner {
		for _, times := range [][2]int{{0, 0}, {0, 1}, {1, 1}, {0, never}, {1, never}, {2, never}, {15, never}, {0, 15}, {15, 15}, {3, 7}} {
			whole := rep(times[0], times[1], e)
			if regex.Check(whole) != api.OK {
				continue
			}
			m, follows := made(t, whole), made(t, seq(whole, setOf("c")))
			for _, s := range texts("ab", 4) {
				what, _ := regex.Print(whole)
				wantAsSlow(t, what, m, whole, s)
				wantIs(t, what+"c", follows, s+"c", slow{s}.is(whole))
			}
			if !m.Nothing() {
				t.Error("Nothing, of the empty text repeated")
			}
		}
	}
}

// P6.4

func TestClone(t *testing.T) {
	for _, pattern := range []string{"", "a", "(a|bc)*", "a{2,3}b?", "(a*)*b"} {
		e := parsed(t, pattern)
		m := of(t, pattern)
		c := m.Clone()
		if c == nil || c == m {
			t.Fatalf("%q: %p is no other one than %p", pattern, c, m)
		}
		d := c.Clone()
		for _, s := range texts("abc", 4) {
			wantAsSlow(t, "the original of "+pattern, m, e, s)
			wantAsSlow(t, "a clone of "+pattern, c, e, s)
			wantAsSlow(t, "a clone's clone of "+pattern, d, e, s)
		}
		wantTooLong(t, c, repeated("a", 257))
		if c.Nothing() != m.Nothing() || d.Nothing() != m.Nothing() {
			t.Errorf("%q: a clone tells otherwise of the empty text", pattern)
		}
	}
}

// A clone is gone when its original is written over, and the other way round: they share nothing.
func TestCloneStandsAlone(t *testing.T) {
	m := of(t, "a+")
	c := m.Clone()
	*m = *of(t, "b")
	wantHits(t, "a clone", c, "aab", pairs{{0, 2}})
	wantHits(t, "another one in its original's place", m, "aab", pairs{{2, 3}})
	*c = *of(t, "ab")
	wantHits(t, "another one in a clone's place", c, "aab", pairs{{1, 3}})
	wantHits(t, "its original", m, "aab", pairs{{2, 3}})
}

// A machine keeps nothing of the expression that was handed in, and leaves it as it is.
func TestWhatIsHandedInIsLeft(t *testing.T) {
	a, b := setOf("a"), setOf("b")
	room := append(make(exprs, 0, 8), a, rep(1, 2, alt(b, seq(a, a))), a)
	spare := room[:8:8]
	spare[3] = setOf("z")
	e := expr{Kind: api.RegexSeq, List: room}
	pattern, _ := regex.Print(e)
	m := made(t, e)
	if now, _ := regex.Print(e); now != pattern || spare[3].Set != setOf("z").Set {
		t.Errorf("the expression was changed: %q, %v", now, spare)
	}
	want := of(t, pattern)
	room[1].List[0].List[0], room[0], room[2] = a, b, expr{}
	for _, s := range texts("ab", 6) {
		is, _ := want.Is(s)
		wantIs(t, "the expression was changed behind", m, s, is)
		wantHits(t, "the expression was changed behind", m, s, want.Hits(s))
	}
}

func TestWhatIsToldIsTheCallersOwn(t *testing.T) {
	m := of(t, "a+")
	c := m.Clone()
	first, second := m.Hits("aabaaab"), m.Hits("aabaaab")
	for i := range first {
		first[i] = [2]int{-1, -1}
	}
	for i := range first[:cap(first)] {
		first[:cap(first)][i] = [2]int{-2, -2}
	}
	want := pairs{{0, 2}, {3, 6}}
	if !slices.Equal(second, want) {
		t.Errorf("another answer was changed: %v", second)
	}
	wantHits(t, "a+", m, "aabaaab", want)
	wantHits(t, "a+", c, "aabaaab", want)
	_ = append(second[:1], [2]int{7, 8})
	wantHits(t, "a+", m, "aabaaab", want)
}

// What a call answers does not hang on the calls ahead of it.
func TestAMachineNeverChanges(t *testing.T) {
	rnd := rand.New(rand.NewSource(64))
	e := parsed(t, "(a|bc)*b?|c{2,3}")
	m := made(t, e)
	for range 3000 {
		s := anyText(rnd, "abc", 7)
		wantAsSlow(t, "a used machine", m, e, s)
		if rnd.Intn(10) == 0 {
			wantTooLong(t, m, repeated("b", 257+rnd.Intn(20)))
		}
	}
}

// All texts of two letters against all expressions of a few parts.
func TestSmallExpressions(t *testing.T) {
	leaves := exprs{seq(), setOf("a"), setOf("b"), setOf("ab")}
	two := slices.Clone(leaves)
	for _, e := range leaves {
		two = append(two, rep(0, never, e), rep(1, never, e), rep(0, 1, e), rep(2, 2, e), rep(0, 0, e), rep(1, 3, e), rep(2, never, e))
		for _, f := range leaves {
			two = append(two, seq(e, f), alt(e, f))
		}
	}
	all := texts("ab", 4)
	for _, e := range two {
		wantAllAsSlow(t, e, all)
		for _, times := range [][2]int{{0, never}, {1, never}, {2, 3}, {0, 2}, {2, never}} {
			wantAllAsSlow(t, rep(times[0], times[1], e), all)
		}
	}
	all = texts("ab", 3)
	for _, e := range two {
		for _, f := range two {
			wantAllAsSlow(t, seq(e, f), all)
			wantAllAsSlow(t, alt(e, f), all)
		}
	}
}

func wantAllAsSlow(t *testing.T, e expr, all []string) {
	t.Helper()
	what, _ := regex.Print(e)
	m := made(t, e)
	for _, s := range all {
		wantAsSlow(t, what, m, e, s)
	}
}

func TestAnyExpression(t *testing.T) {
	rnd := rand.New(rand.NewSource(61))
	tried := 0
	for range 4000 {
		e := anyExpr(rnd, 1+rnd.Intn(4))
		if regex.Size(e) > api.MaxStates {
			wantNew(t, "too big", e, api.ErrRegexLong)
			continue
		}
		tried++
		what, _ := regex.Print(e)
		m := made(t, e)
		for range 6 {
			wantAsSlow(t, what, m, e, anyText(rnd, "abcd", 9))
		}
	}
	if tried < 3000 {
		t.Errorf("%d tried alone", tried)
	}
}

// Long texts, against the library's machine of the longest text.
func TestLongTexts(t *testing.T) {
	rnd := rand.New(rand.NewSource(62))
	for range 1500 {
		e := anyExpr(rnd, 1+rnd.Intn(4))
		pattern, fault := regex.Print(e)
		if fault != api.OK {
			continue
		}
		whole, part := regexp.MustCompile("^(?:"+pattern+")$"), regexp.MustCompile("^(?:"+pattern+")")
		part.Longest()
		m := made(t, e)
		s := anyText(rnd, "aaabc", 256)
		longest := make([]int, len(s)+1)
		for i := range longest {
			longest[i] = -1
			if found := part.FindStringIndex(s[i:]); found != nil && found[1] > 0 {
				longest[i] = i + found[1]
			}
		}
		wantIs(t, pattern, m, s, whole.MatchString(s))
		wantHits(t, pattern, m, s, slowHits(longest))
		for _, from := range []int{-1, 0, rnd.Intn(257), len(s), len(s) + 1} {
			begin, end, ok := slowHit(longest, from)
			wantHit(t, pattern, m, s, from, begin, end, ok)
		}
	}
}

// What follows: of a hit, of all hits, of what is joined.
func TestWhatFollows(t *testing.T) {
	rnd := rand.New(rand.NewSource(63))
	for range 1500 {
		e, f := anyExpr(rnd, 2), anyExpr(rnd, 2)
		row, either := seq(e, f), alt(e, f)
		if regex.Check(row) != api.OK {
			continue
		}
		me, mf, mr, ma := made(t, e), made(t, f), made(t, row), made(t, either)
		s := anyText(rnd, "abc", 8)
		ise, _ := me.Is(s)
		isf, _ := mf.Is(s)
		wantIs(t, "an alternative", ma, s, ise || isf)
		joined := false
		for i := range len(s) + 1 {
			head, _ := me.Is(s[:i])
			tail, _ := mf.Is(s[i:])
			joined = joined || head && tail
		}
		wantIs(t, "a row", mr, s, joined)
		wantHitsHold(t, mr, s)
		if ma.Nothing() != (me.Nothing() || mf.Nothing()) || mr.Nothing() != (me.Nothing() && mf.Nothing()) {
			t.Errorf("%v, %v: the empty text of what is joined", e, f)
		}
	}
}

func wantHitsHold(t *testing.T, m *match.Machine, s string) {
	t.Helper()
	last := 0
	for _, h := range append(m.Hits(s), [2]int{len(s), len(s)}) {
		if h[0] < last || h[1] < h[0] || h[1] > len(s) {
			t.Fatalf("%q: hits %v", s, m.Hits(s))
		}
		for begin := last; begin <= h[0]; begin++ {
			for end := begin + 1; end <= len(s); end++ {
				is, _ := m.Is(s[begin:end])
				if want := [2]int{begin, end} == h; is != want && (want || begin < h[0] || end > h[1]) {
					t.Fatalf("%q: hits %v, but %d to %d", s, m.Hits(s), begin, end)
				}
			}
		}
		last = h[1]
	}
}

// Expressions as big as may be, of all shapes: a state for each part has its place.
func TestTheGreatestSize(t *testing.T) {
	a, b := setOf("a"), setOf("b")
	many := func(n int, e expr) exprs { return slices.Repeat(exprs{e}, n) }
	as := func(n int) string { return repeated("a", n) }
	nested := a
	for range 255 {
		nested = rep(0, never, nested)
	}
	optional := a
	for range 255 {
		optional = rep(0, 1, optional)
	}
	twice := seq()
	for range 17 {
		twice.List = append(twice.List, rep(0, 14, a))
	}
	for _, x := range []struct {
		what    string
		e       expr
		in, out []string
	}{
		{"a row", seq(many(255, a)...), []string{as(255)}, []string{"", as(254), as(256), as(254) + "b"}},
		{"an alternative", alt(append(many(254, a), b)...), []string{"a", "b"}, []string{"", "c", "ab", "aa"}},
		{"an alternative of empty rows", alt(append(many(254, seq()), b)...), []string{"", "b"}, []string{"a", "bb"}},
		{"a row of empty ones", seq(append(many(254, seq()), b)...), []string{"b"}, []string{"", "a", "bb"}},
		{"times", rep(15, 15, seq(many(16, a)...)), []string{as(240)}, []string{"", as(239), as(241), as(224), as(256)}},
		{"up to so many times", rep(0, 15, seq(many(16, a)...)), []string{"", as(16), as(224), as(240)}, []string{as(1), as(15), as(17), as(239), as(241), as(256)}},
		{"five times and more", rep(5, never, seq(many(50, a)...)), []string{as(250)}, []string{"", as(50), as(200), as(249), as(251)}},
		{"an end without end", rep(0, never, seq(many(254, a)...)), []string{"", as(254)}, []string{as(1), as(253), as(255), as(256)}},
		{"repeats in one another", nested, []string{"", "a", as(256)}, []string{"b", "ab"}},
		{"perhaps in one another", optional, []string{"", "a"}, []string{"b", "aa"}},
		{"up to so many times, often", seq(twice.List...), []string{"", "a", as(238)}, []string{as(239), as(256), "ab"}},
		{"perhaps, often", seq(append(many(127, rep(0, 1, a)), a)...), []string{"a", as(128)}, []string{"", as(129), as(256), "b"}},
		{"any of any", seq(many(85, alt(a, b))...), []string{as(85), repeated("b", 85)}, []string{as(84), as(86)}},
	} {
		if size := regex.Size(x.e); size < 250 || size > 256 {
			t.Errorf("%s: the size is %d", x.what, size)
		}
		m := made(t, x.e)
		for _, s := range x.in {
			wantIs(t, x.what, m, s, true)
			wantIs(t, x.what, m.Clone(), s, true)
		}
		for _, s := range x.out {
			wantIs(t, x.what, m, s, false)
		}
	}
}

// In time that does not grow with the ways: each of these texts may be gone through in more ways than could be tried.
func TestManyWays(t *testing.T) {
	for _, pattern := range []string{
		"(a*)*b", "(a|a)*b", "(a|aa)*b", "((a*)*)*b", "((a+)+)+b", "(a?){15}a{15}b", "((a?){7}){15}b", "(a*a*a*a*a*)*b", "(.*.*.*.*=.*)b", "((a{0,15}){0,15})*b", "(a{2,3}|a{3,4}|a)*b", "(()|a|()*)*b", "((a|b)*c|(a|d)*e)*f",
		"((a{1,15}){1,15})+b", "(a{15}){15}",
	} {
		m, fault := match.Of(pattern)
		if fault == api.ErrRegexLong {
			t.Errorf("%q is too big", pattern)
			continue
		}
		s := repeated("a", 256)
		if is, _ := m.Is(s); is {
			t.Errorf("%q is %d times a", pattern, len(s))
		}
		for _, h := range m.Hits(s) {
			wantIs(t, pattern, m, s[h[0]:h[1]], true)
		}
	}
	m := of(t, "(a*)*b")
	wantHits(t, "(a*)*b", m, repeated("a", 255)+"b", pairs{{0, 256}})
	wantHits(t, "(a|a)*b", of(t, "(a|a)*b"), repeated("a", 100)+"b"+repeated("a", 100)+"b"+repeated("a", 54), pairs{{0, 101}, {101, 202}})
}
