package match_test

import (
	"math"
	"math/rand"
	"slices"
	"testing"

	"castellan/api"
	"castellan/match"
	"castellan/regex"
)

type (
	expr  = api.Regex
	exprs = []api.Regex
	pairs = [][2]int
)

const never = -1 // as Max: without an end

var anyByte = expr{Set: [4]uint64{math.MaxUint64, math.MaxUint64, math.MaxUint64, math.MaxUint64}}

// setOf is the set of a text's bytes.
func setOf(s string) expr {
	e := expr{Kind: api.RegexSet}
	for i := range len(s) {
		e.Set[s[i]/64] |= 1 << (s[i] % 64)
	}
	return e
}

func seq(l ...expr) expr { return expr{Kind: api.RegexSeq, List: l} }

func alt(l ...expr) expr { return expr{Kind: api.RegexAlt, List: l} }

func rep(least, most int, e expr) expr {
	return expr{Kind: api.RegexRep, Min: least, Max: most, List: exprs{e}}
}

func hasByte(e expr, b byte) bool { return e.Set[b/64]&(1<<(b%64)) != 0 }

// slow tells by chapter 5's words where texts of an expression end that begin at a place of s: at each place from 0 to len(s), does one?
type slow struct{ s string }

func (x slow) none() []bool { return make([]bool, len(x.s)+1) }

func (x slow) ends(e expr, begin int) []bool {
	found := x.none()
	switch e.Kind {
	case api.RegexSet:
		if begin < len(x.s) && hasByte(e, x.s[begin]) {
			found[begin+1] = true
		}
	case api.RegexSeq:
		found[begin] = true
		for _, element := range e.List {
			found = x.behind(found, element)
		}
	case api.RegexAlt:
		for _, element := range e.List {
			found = either(found, x.ends(element, begin))
		}
	case api.RegexRep:
		now := x.none()
		now[begin] = true
		for range e.Min {
			now = x.behind(now, e.List[0])
		}
		more := e.Max - e.Min
		if e.Max == never {
			more = len(x.s) + 1 // those that are not empty are no more than bytes
		}
		found = now
		for range more {
			now = x.behind(now, e.List[0])
			found = either(found, now)
		}
	}
	return found
}

// behind is where texts end that begin where others did.
func (x slow) behind(begins []bool, e expr) []bool {
	found := x.none()
	for i, is := range begins {
		if is {
			found = either(found, x.ends(e, i))
		}
	}
	return found
}

func either(a, b []bool) []bool {
	c := slices.Clone(a)
	for i := range b {
		c[i] = c[i] || b[i]
	}
	return c
}

func (x slow) is(e expr) bool { return x.ends(e, 0)[len(x.s)] }

// longest is for each place where the longest text that begins there ends; -1, where none but the empty one does.
func (x slow) longest(e expr) []int {
	l := make([]int, len(x.s)+1)
	for begin := range l {
		l[begin] = -1
		for end, is := range x.ends(e, begin) {
			if is && end > begin {
				l[begin] = end
			}
		}
	}
	return l
}

// hit is P6.3's words, of what longest tells.
func slowHit(longest []int, from int) (int, int, bool) {
	for begin := from; begin >= 0 && begin < len(longest); begin++ {
		if longest[begin] >= 0 {
			return begin, longest[begin], true
		}
	}
	return 0, 0, false
}

func slowHits(longest []int) pairs {
	var l pairs
	for from := 0; ; {
		begin, end, ok := slowHit(longest, from)
		if !ok {
			return l
		}
		l, from = append(l, [2]int{begin, end}), end
	}
}

// made is the machine of an e that may be.
func made(t *testing.T, e expr) *match.Machine {
	t.Helper()
	m, fault := match.New(e)
	if fault != api.OK || m == nil {
		t.Fatalf("%v: %v, %d", e, m, fault)
	}
	return m
}

func of(t *testing.T, pattern string) *match.Machine {
	t.Helper()
	m, fault := match.Of(pattern)
	if fault != api.OK || m == nil {
		t.Fatalf("%q: %v, %d", pattern, m, fault)
	}
	return m
}

func parsed(t *testing.T, pattern string) expr {
	t.Helper()
	e, fault := regex.Parse(pattern)
	if fault != api.OK {
		t.Fatalf("%q: %d", pattern, fault)
	}
	return e
}

func wantIs(t *testing.T, what string, m *match.Machine, s string, want bool) {
	t.Helper()
	if is, fault := m.Is(s); is != want || fault != api.OK {
		t.Errorf("%s, %q: Is %v, %d, not %v", what, s, is, fault, want)
	}
}

func wantHit(t *testing.T, what string, m *match.Machine, s string, from, begin, end int, ok bool) {
	t.Helper()
	if b, e, found := m.Hit(s, from); b != begin || e != end || found != ok {
		t.Errorf("%s, %q, %d: Hit %d, %d, %v, not %d, %d, %v", what, s, from, b, e, found, begin, end, ok)
	}
}

func wantHits(t *testing.T, what string, m *match.Machine, s string, want pairs) {
	t.Helper()
	if l := m.Hits(s); !slices.Equal(l, want) {
		t.Errorf("%s, %q: Hits %v, not %v", what, s, l, want)
	}
}

// wantAsSlow holds all that a machine tells of s against chapter 5's and chapter 6's words.
func wantAsSlow(t *testing.T, what string, m *match.Machine, e expr, s string) {
	t.Helper()
	x := slow{s}
	longest := x.longest(e)
	wantIs(t, what, m, s, x.is(e))
	for from := -1; from <= len(s)+1; from++ {
		begin, end, ok := slowHit(longest, from)
		wantHit(t, what, m, s, from, begin, end, ok)
	}
	wantHits(t, what, m, s, slowHits(longest))
}

// anyExpr is one that may be, of so many parts nested in one another at most, of few letters, so that much is hit.
func anyExpr(rnd *rand.Rand, deep int) expr {
	if deep == 0 || rnd.Intn(5) == 0 {
		switch rnd.Intn(8) {
		case 0:
			return seq()
		case 1:
			return anyByte
		case 2:
			return setOf("ab")
		}
		return setOf("abc"[rnd.Intn(3):][:1])
	}
	switch rnd.Intn(3) {
	case 0:
		return anyRep(rnd, anyExpr(rnd, deep-1))
	case 1:
		return alt(anyList(rnd, deep)...)
	}
	return seq(anyList(rnd, deep)...)
}

func anyList(rnd *rand.Rand, deep int) exprs {
	var l exprs
	for range 2 + rnd.Intn(2) {
		l = append(l, anyExpr(rnd, deep-1))
	}
	return l
}

func anyRep(rnd *rand.Rand, e expr) expr {
	least := rnd.Intn(4)
	if rnd.Intn(2) == 0 {
		return rep(least, never, e)
	}
	return rep(least, least+rnd.Intn(4), e)
}

func anyText(rnd *rand.Rand, letters string, most int) string {
	b := make([]byte, rnd.Intn(most+1))
	for i := range b {
		b[i] = letters[rnd.Intn(len(letters))]
	}
	return string(b)
}

// texts is all texts of those letters with at most so many bytes.
func texts(letters string, most int) []string {
	all, last := []string{""}, []string{""}
	for range most {
		var longer []string
		for _, s := range last {
			for i := range len(letters) {
				longer = append(longer, s+letters[i:i+1])
			}
		}
		all, last = append(all, longer...), longer
	}
	return all
}
