package regex_test

import (
	"math"
	"math/rand"
	"slices"
	"testing"

	"castellan/api"
	"castellan/regex"
)

type (
	expr  = api.Regex
	exprs = []api.Regex
)

const never = -1 // as Max: without an end

var allBytes = [4]uint64{math.MaxUint64, math.MaxUint64, math.MaxUint64, math.MaxUint64}

// setOf is the set of a text's bytes.
func setOf(s string) expr {
	e := expr{Kind: api.RegexSet}
	for i := range len(s) {
		e.Set[s[i]/64] |= 1 << (s[i] % 64)
	}
	return e
}

// from is the set of all bytes from low to high.
func from(low, high int) expr {
	e := expr{Kind: api.RegexSet}
	for b := low; b <= high; b++ {
		e.Set[b/64] |= 1 << (b % 64)
	}
	return e
}

func seq(l ...expr) expr { return expr{Kind: api.RegexSeq, List: l} }

func alt(l ...expr) expr { return expr{Kind: api.RegexAlt, List: l} }

func rep(least, most int, e expr) expr {
	return expr{Kind: api.RegexRep, Min: least, Max: most, List: exprs{e}}
}

// text is a row of single bytes, two at least.
func text(s string) expr {
	e := seq()
	for i := range len(s) {
		e.List = append(e.List, setOf(s[i:i+1]))
	}
	return e
}

func equal(a, b expr) bool {
	return a.Kind == b.Kind && a.Min == b.Min && a.Max == b.Max && a.Set == b.Set && slices.EqualFunc(a.List, b.List, equal)
}

// copied shares no memory with e.
func copied(e expr) expr {
	var l exprs
	for _, element := range e.List {
		l = append(l, copied(element))
	}
	e.List = l
	return e
}

// sized has the size n, of 1 or above.
func sized(n int) expr {
	switch n {
	case 1:
		return setOf("a")
	case 2:
		return rep(0, never, setOf("a"))
	}
	e := seq()
	for range n - 1 {
		e.List = append(e.List, setOf("a"))
	}
	return e
}

// wantSize holds both of P5.1's answers of an e that may be.
func wantSize(t *testing.T, what string, e expr, size int) {
	t.Helper()
	fault := api.OK
	if size > api.MaxStates {
		size, fault = 257, api.ErrRegexLong
	}
	if n, ge := regex.Size(e), regex.Check(e); n != size || ge != fault {
		t.Errorf("%s: size %d, Check %d, not %d, %d", what, n, ge, size, fault)
	}
}

// wantNone holds what all calls answer of an e that may not be.
func wantNone(t *testing.T, what string, e expr) {
	t.Helper()
	if n, ge := regex.Size(e), regex.Check(e); n != 0 || ge != api.ErrRegexForm {
		t.Errorf("%s: size %d, Check %d, not 0, %d", what, n, ge, api.ErrRegexForm)
	}
	if s, ge := regex.Print(e); s != "" || ge != api.ErrRegexForm {
		t.Errorf("%s: Print %q, %d, not %d", what, s, ge, api.ErrRegexForm)
	}
}

// anyExpr is one that may be, of so many parts nested in one another at most.
func anyExpr(rnd *rand.Rand, deep int) expr {
	kind := rnd.Intn(api.RegexKinds)
	if deep == 0 {
		kind = rnd.Intn(2) // a set, or the empty row
	}
	var l exprs
	switch {
	case kind == api.RegexSet:
		return anySet(rnd)
	case deep == 0:
		return seq()
	case kind == api.RegexRep:
		return anyRep(rnd, anyExpr(rnd, deep-1))
	}
	for range 2 + rnd.Intn(2) {
		l = append(l, anyExpr(rnd, deep-1))
	}
	if kind == api.RegexSeq && rnd.Intn(6) == 0 {
		l = nil
	}
	return expr{Kind: kind, List: l}
}

func anyRep(rnd *rand.Rand, e expr) expr {
	least := rnd.Intn(3)
	if rnd.Intn(4) == 0 {
		least = rnd.Intn(api.MaxRepeat + 1)
	}
	most := never
	if rnd.Intn(2) == 0 {
		most = least + rnd.Intn(api.MaxRepeat+1-least)
	}
	return rep(least, most, e)
}

func anySet(rnd *rand.Rand) expr {
	if rnd.Intn(2) == 0 {
		return setOf(string([]byte{byte(rnd.Intn(256))}))
	}
	if rnd.Intn(8) == 0 {
		return expr{Set: allBytes}
	}
	var e expr
	for range 1 + rnd.Intn(4) {
		low := rnd.Intn(256)
		more := from(low, min(255, low+rnd.Intn(4)))
		for i := range e.Set {
			e.Set[i] |= more.Set[i]
		}
	}
	if rnd.Intn(8) == 0 {
		for i := range e.Set {
			e.Set[i] = ^e.Set[i]
		}
	}
	return e
}

// P5.1

func TestSize(t *testing.T) {
	a, b := setOf("a"), setOf("b")
	for _, x := range []struct {
		what string
		e    expr
		size int
	}{
		{"a", a, 1},
		{"a set of many", from(1, 200), 1},
		{"all bytes", expr{Set: allBytes}, 1},
		{"the byte 0", expr{Set: [4]uint64{1}}, 1},
		{"the byte 255", expr{Set: [4]uint64{0, 0, 0, 1 << 63}}, 1},
		{"the empty row", seq(), 1},
		{"an empty list", expr{Kind: api.RegexSeq, List: exprs{}}, 1},
		{"a set with an empty list", expr{Set: [4]uint64{2}, List: exprs{}}, 1},
		{"ab", seq(a, b), 3},
		{"a|b", alt(a, b), 3},
		{"a|", alt(a, seq()), 3},
		{"a row in a row", seq(seq(a, b), seq()), 5},
		{"a{3}", rep(3, 3, a), 4},
		{"a*", rep(0, never, a), 2},
		{"a+", rep(1, never, a), 2},
		{"a?", rep(0, 1, a), 2},
		{"a{0}", rep(0, 0, a), 2},
		{"a{1}", rep(1, 1, a), 2},
		{"a{3,}", rep(3, never, a), 4},
		{"a{0,7}", rep(0, 7, a), 8},
		{"a{2,7}", rep(2, 7, a), 8},
		{"a{15}", rep(15, 15, a), 16},
		{"a{15,}", rep(15, never, a), 16},
		{"a{0,15}", rep(0, 15, a), 16},
		{"(ab){3}", rep(3, 3, seq(a, b)), 10},
		{"(a*)*", rep(0, never, rep(0, never, a)), 3},
		{"(a{3}){3}", rep(3, 3, rep(3, 3, a)), 13},
		{"ab|c{2}", alt(seq(a, b), rep(2, 2, a)), 7},
	} {
		wantSize(t, x.what, x.e, x.size)
	}
}

func TestSizeOfAllTimes(t *testing.T) {
	for least := -2; least <= api.MaxRepeat+2; least++ {
		for most := -3; most <= api.MaxRepeat+2; most++ {
			for of := 1; of < 4; of++ {
				e := rep(least, most, sized(of))
				if least < 0 || least > 15 || most > 15 || most < least && most != -1 {
					wantNone(t, "times that may not be", e)
					continue
				}
				wantSize(t, "times", e, 1+of*max(1, least, most))
			}
		}
	}
}

func TestSizesAtTheirBound(t *testing.T) {
	for _, n := range []int{1, 2, 3, 4, 100, 254, 255, 256, 257, 258, 259, 300, 5000} {
		wantSize(t, "a row", sized(n), n)
		wantSize(t, "a row in an alternative", alt(sized(n), setOf("a")), n+2)
		wantSize(t, "a row in an alternative, behind", alt(setOf("a"), sized(n)), n+2)
		wantSize(t, "a row, once", rep(1, 1, sized(n)), n+1)
		wantSize(t, "a row, twice", rep(2, 2, sized(n)), 2*n+1)
		wantSize(t, "a row, once in a row", seq(sized(n), rep(15, 15, setOf("a"))), n+17)
	}
	wantSize(t, "15 times 17", rep(0, 15, sized(17)), 256)
	wantSize(t, "15 times 17, and one", seq(rep(0, 15, sized(17)), seq()), 258)
	wantSize(t, "5 times 51, 256 in all", rep(5, 5, sized(51)), 256)
	wantSize(t, "4 times 64", rep(4, 4, sized(64)), 257)
	wantSize(t, "15 times 18", rep(15, never, sized(18)), 271)
}

// What grows beyond all numbers is too big, and no more than that.
func TestSizesThatGrow(t *testing.T) {
	e := setOf("a")
	for n := 1; n < 100; n++ {
		e = rep(15, 15, e)
		if n > 2 {
			wantSize(t, "fifteen times fifteen", e, 1000)
			wantSize(t, "a row of them", seq(e, e, e), 1000)
		}
	}
	wantSize(t, "too big, none of it asked for", rep(0, 0, e), 1000)
}

func TestSizeOfManyParts(t *testing.T) {
	e, bad := setOf("a"), expr{}
	for n := 1; n < 1<<16; n++ {
		e, bad = rep(0, never, e), rep(0, never, bad)
		if n < 400 {
			wantSize(t, "many parts in one another", e, n+1)
		}
	}
	wantSize(t, "most parts in one another", e, 1000)
	wantNone(t, "most parts in one another, the last of which may not be", bad)
	wide := expr{Kind: api.RegexAlt, List: slices.Repeat(exprs{setOf("a")}, 1<<20)}
	wantSize(t, "a wide one", wide, 1000)
	wide.List[1<<20-1] = expr{}
	wantNone(t, "a wide one whose last may not be", wide)
}

// noForms are expressions that may not be by themselves: one for each kind and each reason.
func noForms() map[string]expr {
	a, set := setOf("a"), setOf("a").Set
	return map[string]expr{
		"nothing":                      {},
		"a kind below 0":               {Kind: -1, Set: set},
		"no kind":                      {Kind: api.RegexKinds, List: exprs{a, a}},
		"no kind, far off":             {Kind: math.MaxInt, List: exprs{a}},
		"no kind, far below":           {Kind: math.MinInt},
		"an empty set":                 {Kind: api.RegexSet},
		"a set with a Min":             {Kind: api.RegexSet, Set: set, Min: 1},
		"a set with a Min and a Max":   {Kind: api.RegexSet, Set: set, Min: 1, Max: 1},
		"a set with a Max":             {Kind: api.RegexSet, Set: set, Max: 1},
		"a set with no end":            {Kind: api.RegexSet, Set: set, Max: -1},
		"a set with an element":        {Kind: api.RegexSet, Set: set, List: exprs{a}},
		"a set with two elements":      {Kind: api.RegexSet, Set: set, List: exprs{a, a}},
		"an empty set with an element": {Kind: api.RegexSet, List: exprs{a}},
		"a row of one":                 seq(a),
		"a row of an empty one":        seq(seq()),
		"a row with a Min":             {Kind: api.RegexSeq, List: exprs{a, a}, Min: 1},
		"a row with a Max":             {Kind: api.RegexSeq, List: exprs{a, a}, Max: 1},
		"a row with no end":            {Kind: api.RegexSeq, List: exprs{a, a}, Max: -1},
		"a row with a set":             {Kind: api.RegexSeq, List: exprs{a, a}, Set: set},
		"the empty row with a Min":     {Kind: api.RegexSeq, Min: -1},
		"the empty row with a Max":     {Kind: api.RegexSeq, Max: 15},
		"the empty row with a set":     {Kind: api.RegexSeq, Set: [4]uint64{0, 0, 0, 1 << 63}},
		"an alternative of none":       alt(),
		"an alternative of one":        alt(a),
		"an alternative with a Min":    {Kind: api.RegexAlt, List: exprs{a, a}, Min: 1},
		"an alternative with a Max":    {Kind: api.RegexAlt, List: exprs{a, a}, Max: 1},
		"an alternative with no end":   {Kind: api.RegexAlt, List: exprs{a, a}, Max: -1},
		"an alternative with a set":    {Kind: api.RegexAlt, List: exprs{a, a}, Set: [4]uint64{1}},
		"times of none":                {Kind: api.RegexRep},
		"times of none, more":          {Kind: api.RegexRep, Max: -1, List: exprs{}},
		"times of two":                 {Kind: api.RegexRep, Max: -1, List: exprs{a, a}},
		"times with a set":             {Kind: api.RegexRep, Max: -1, List: exprs{a}, Set: set},
		"times with a set of others":   {Kind: api.RegexRep, Max: -1, List: exprs{a}, Set: [4]uint64{0, 0, 1}},
		"a Min below 0":                rep(-1, -1, a),
		"a Min far below":              rep(math.MinInt, never, a),
		"a Min above MaxRepeat":        rep(16, 16, a),
		"a Min above it, no end":       rep(16, never, a),
		"a Min far above":              rep(math.MaxInt, never, a),
		"a Max below Min":              rep(3, 2, a),
		"a Max of 0 below Min":         rep(1, 0, a),
		"a Max above MaxRepeat":        rep(15, 16, a),
		"a Max far above":              rep(0, math.MaxInt, a),
		"a Max of -2":                  rep(0, -2, a),
		"a Max far below":              rep(0, math.MinInt, a),
	}
}

func TestWhatMayNotBe(t *testing.T) {
	a, long := setOf("a"), sized(300)
	for what, e := range noForms() {
		wantNone(t, what, e)
		wantNone(t, what+", first in a row", seq(e, a))
		wantNone(t, what+", last in a row", seq(a, a, e))
		wantNone(t, what+", first in an alternative", alt(e, a))
		wantNone(t, what+", last in an alternative", alt(a, e))
		wantNone(t, what+", so many times", rep(2, 3, e))
		wantNone(t, what+", no times", rep(0, 0, e))
		wantNone(t, what+", deep", alt(a, rep(0, never, seq(a, alt(rep(0, 1, e), a)))))
		// The form is told ahead of the size.
		wantNone(t, what+", behind what is too big", seq(long, e))
		wantNone(t, what+", ahead of what is too big", seq(e, long))
		wantNone(t, what+", deep behind what is too big", alt(rep(15, 15, long), seq(a, rep(0, 0, e))))
	}
}

// slowSize is chapter 5's words once more: how many sets, rows, alternatives and signs there are, once all is written out.
func slowSize(e expr) int {
	n := 1
	for _, element := range e.List {
		for range max(1, e.Min, e.Max) {
			n += slowSize(element)
		}
	}
	return n
}

func TestSizeOfAny(t *testing.T) {
	rnd := rand.New(rand.NewSource(51))
	fit := 0
	for n := range 20000 {
		e := anyExpr(rnd, n%7)
		wantSize(t, "any", e, slowSize(e))
		if slowSize(e) <= api.MaxStates {
			fit++
		}
	}
	if fit < 5000 || fit > 19000 {
		t.Errorf("%d fit", fit)
	}
}

// R4

func TestExpressionsAreLeftAsTheyAre(t *testing.T) {
	rnd := rand.New(rand.NewSource(52))
	for n := range 2000 {
		e := anyExpr(rnd, n%5)
		e.List = append(slices.Clone(e.List), setOf("x"), expr{})[:len(e.List)]
		was := copied(e)
		regex.Check(e)
		regex.Size(e)
		regex.Print(e)
		if !equal(e, was) {
			t.Fatalf("%v was %v", e, was)
		}
		if room := e.List[:cap(e.List)][len(e.List):]; !equal(room[0], setOf("x")) || !equal(room[1], expr{}) {
			t.Fatalf("the room behind is %v", room)
		}
	}
}
