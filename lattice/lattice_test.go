package lattice_test

import (
	"math"
	"math/rand"
	"slices"
	"testing"

	"castellan/api"
	"castellan/lattice"
)

type pairs = [][2]int

// diamond is 0 below 1 and 2, and 3 above them, with a pair that follows from others.
var diamond = pairs{{0, 1}, {0, 2}, {1, 3}, {2, 3}, {0, 3}}

// cube is the sets of three things, each as a number of three bits, which flow to those that include them.
var cube = pairs{{0, 1}, {0, 2}, {0, 4}, {1, 3}, {1, 5}, {2, 3}, {2, 6}, {3, 7}, {4, 5}, {4, 6}, {5, 7}, {6, 7}}

// pentagon is a lattice in which brackets about a join and a meet together count: 0 below 1, 1 below 2, 0 below 3, all below 4.
var pentagon = pairs{{0, 1}, {1, 2}, {2, 4}, {0, 3}, {3, 4}}

func chain(n int) pairs {
	var l pairs
	for a := 1; a < n; a++ {
		l = append(l, [2]int{a - 1, a})
	}
	return l
}

// noLevels are numbers that are no level of n.
func noLevels(n int) []int {
	return []int{-1, -2, n, n + 1, api.MaxLevels, api.MaxLevels + 1, 64, math.MinInt, math.MaxInt}
}

func latticeOf(t *testing.T, n int, l pairs) *lattice.Lattice {
	t.Helper()
	made, e := lattice.New(n, l)
	if e != api.OK || made == nil {
		t.Fatalf("New(%d, %v): %d", n, l, e)
	}
	return made
}

func wantRefused(t *testing.T, what string, n int, l pairs, e api.Errno) {
	t.Helper()
	if made, ge := lattice.New(n, l); made != nil || ge != e {
		t.Errorf("%s: New(%d, %v): %v, %d, not %d", what, n, l, made != nil, ge, e)
	}
}

func wantInts(t *testing.T, what string, got, want []int) {
	t.Helper()
	if !slices.Equal(got, want) {
		t.Errorf("%s: %v, not %v", what, got, want)
	}
}

func wantPairs(t *testing.T, what string, got, want pairs) {
	t.Helper()
	if !slices.Equal(got, want) {
		t.Errorf("%s: %v, not %v", what, got, want)
	}
}

// order is chapter 4's words once more: which of n levels flows to which, by a search along the pairs.
type order struct {
	n     int
	flows map[[2]int]bool
}

func orderOf(n int, l pairs) order {
	o := order{n, map[[2]int]bool{}}
	for a := range n {
		o.flows[[2]int{a, a}] = true
		for waiting := []int{a}; len(waiting) > 0; waiting = waiting[1:] {
			for _, p := range l {
				if way := [2]int{a, p[1]}; p[0] == waiting[0] && !o.flows[way] {
					o.flows[way] = true
					waiting = append(waiting, p[1])
				}
			}
		}
	}
	return o
}

func (o order) flow(a, b int) bool { return o.flows[[2]int{a, b}] }

// whose is the levels of which a thing holds, rising.
func (o order) whose(holds func(c int) bool) []int {
	var l []int
	for c := range o.n {
		if holds(c) {
			l = append(l, c)
		}
	}
	return l
}

func (o order) join(a, b int) int {
	bounds := o.whose(func(c int) bool { return o.flow(a, c) && o.flow(b, c) })
	for _, c := range bounds {
		if !slices.ContainsFunc(bounds, func(d int) bool { return !o.flow(c, d) }) {
			return c
		}
	}
	return -1
}

func (o order) meet(a, b int) int {
	bounds := o.whose(func(c int) bool { return o.flow(c, a) && o.flow(c, b) })
	for _, c := range bounds {
		if !slices.ContainsFunc(bounds, func(d int) bool { return !o.flow(d, c) }) {
			return c
		}
	}
	return -1
}

func (o order) told() pairs {
	var l pairs
	for a := range o.n {
		for b := range o.n {
			between := o.whose(func(c int) bool { return c != a && c != b && o.flow(a, c) && o.flow(c, b) })
			if a != b && o.flow(a, b) && between == nil {
				l = append(l, [2]int{a, b})
			}
		}
	}
	return l
}

// refusal is P4.1's error of pairs of levels.
func (o order) refusal() api.Errno {
	e := api.OK
	for a := range o.n {
		for b := range o.n {
			if a != b && o.flow(a, b) && o.flow(b, a) {
				return api.ErrLatticeLoop
			}
			if o.join(a, b) == -1 || o.meet(a, b) == -1 {
				e = api.ErrLatticeJoin
			}
		}
	}
	return e
}

// wantOrder holds all that l tells against o.
func wantOrder(t *testing.T, l *lattice.Lattice, o order) {
	t.Helper()
	if l.Levels() != o.n {
		t.Fatalf("%d levels, not %d", l.Levels(), o.n)
	}
	for a := range o.n {
		wantInts(t, "above", l.Above(a), o.whose(func(c int) bool { return o.flow(a, c) }))
		wantInts(t, "below", l.Below(a), o.whose(func(c int) bool { return o.flow(c, a) }))
		for b := range o.n {
			if l.Flows(a, b) != o.flow(a, b) || l.Join(a, b) != o.join(a, b) || l.Meet(a, b) != o.meet(a, b) {
				t.Fatalf("%v: of %d and %d: %v, %d, %d", o.told(), a, b, l.Flows(a, b), l.Join(a, b), l.Meet(a, b))
			}
		}
	}
	for a := range o.n {
		if !o.flow(a, l.Top()) || !o.flow(l.Bottom(), a) {
			t.Fatalf("%v: top %d, bottom %d", o.told(), l.Top(), l.Bottom())
		}
	}
	wantPairs(t, "the pairs", l.Pairs(), o.told())
}

// everyOrder goes through all choices of unlike pairs of n levels.
func everyOrder(n int, do func(l pairs)) {
	var all pairs
	for a := range n {
		for b := range n {
			if a != b {
				all = append(all, [2]int{a, b})
			}
		}
	}
	for chosen := range 1 << len(all) {
		var l pairs
		for i, p := range all {
			if chosen>>i&1 == 1 {
				l = append(l, p)
			}
		}
		do(l)
	}
}

// anyLattice is pairs that tell one of 1 to 8 levels: sets that have with each two what is in both, by their inclusion, and numbered by chance.
func anyLattice(rnd *rand.Rand) (int, pairs) {
	most := 1 + rnd.Intn(api.MaxLevels)
	sets := []int{1<<6 - 1}
	for range 40 {
		more := slices.Clone(sets)
		one := rnd.Intn(1 << 6)
		for _, s := range sets {
			if !slices.Contains(more, s&one) {
				more = append(more, s&one)
			}
		}
		if len(more) <= most {
			sets = more
		}
	}
	number := rnd.Perm(len(sets))
	var l pairs
	for i, s := range sets {
		for j, t := range sets {
			if s&t == s && (i != j || rnd.Intn(3) == 0) {
				l = append(l, [2]int{number[i], number[j]})
			}
		}
	}
	return len(sets), l
}

// anyPairs are some of a lattice's, perhaps one too few, or one that loops.
func anyPairs(rnd *rand.Rand) (int, pairs) {
	n, l := anyLattice(rnd)
	if rnd.Intn(2) == 0 {
		l = orderOf(n, l).told()
	}
	if len(l) > 0 && rnd.Intn(3) == 0 {
		i := rnd.Intn(len(l))
		l = slices.Delete(slices.Clone(l), i, i+1)
	}
	if rnd.Intn(3) == 0 {
		l = append(slices.Clone(l), [2]int{rnd.Intn(n), rnd.Intn(n)})
	}
	rnd.Shuffle(len(l), func(i, j int) { l[i], l[j] = l[j], l[i] })
	return n, l
}

// P4.1

func TestNew(t *testing.T) {
	for _, x := range []struct {
		what string
		n    int
		l    pairs
	}{
		{"one level, no pairs", 1, nil},
		{"one level, an empty list", 1, pairs{}},
		{"one level and itself", 1, pairs{{0, 0}}},
		{"two levels", 2, pairs{{0, 1}}},
		{"two levels, the other way", 2, pairs{{1, 0}}},
		{"a pair twice", 2, pairs{{0, 1}, {0, 1}, {0, 1}}},
		{"levels and themselves", 2, pairs{{0, 0}, {0, 1}, {1, 1}}},
		{"a diamond", 4, diamond},
		{"a pentagon", 5, pentagon},
		{"a cube", 8, cube},
		{"eight levels in a row", 8, chain(8)},
		{"a row, told from its end", 4, pairs{{2, 3}, {1, 2}, {0, 1}}},
		{"a row of levels that don't rise", 4, pairs{{3, 1}, {1, 2}, {2, 0}}},
		{"six levels side by side", 8, pairs{{7, 0}, {7, 1}, {7, 2}, {7, 3}, {7, 4}, {7, 5}, {0, 6}, {1, 6}, {2, 6}, {3, 6}, {4, 6}, {5, 6}}},
	} {
		l, e := lattice.New(x.n, x.l)
		if e != api.OK || l == nil {
			t.Errorf("%s: %d", x.what, e)
			continue
		}
		wantOrder(t, l, orderOf(x.n, x.l))
	}
}

func TestNewOfNoSize(t *testing.T) {
	for _, n := range []int{0, -1, -8, 9, 10, 64, math.MinInt, math.MaxInt} {
		wantRefused(t, "no pairs", n, nil, api.ErrLatticeSize)
		wantRefused(t, "a pair", n, pairs{{0, 1}}, api.ErrLatticeSize)
	}
}

// repeated is the pairs of l from its beginning on again and again, so many.
func repeated(l pairs, count int) pairs {
	var all pairs
	for i := range count {
		all = append(all, l[i%len(l)])
	}
	return all
}

func TestNewOfManyPairs(t *testing.T) {
	for n := 2; n <= api.MaxLevels; n++ {
		for _, count := range []int{63, 64} {
			wantOrder(t, latticeOf(t, n, repeated(chain(n), count)), orderOf(n, chain(n)))
		}
		for _, count := range []int{65, 66, 128, 1000} {
			wantRefused(t, "more than 64 pairs", n, repeated(chain(n), count), api.ErrLatticeSize)
		}
	}
	latticeOf(t, 1, repeated(pairs{{0, 0}}, 64))
	wantRefused(t, "more than 64 pairs", 1, repeated(pairs{{0, 0}}, 65), api.ErrLatticeSize)
}

// The last of 64 pairs counts as much as the first one.
func TestNewOfTheLastPair(t *testing.T) {
	first := repeated(pairs{{0, 1}}, 63)
	wantOrder(t, latticeOf(t, 3, append(slices.Clone(first), [2]int{1, 2})), orderOf(3, chain(3)))
	wantRefused(t, "no level at the end", 3, append(slices.Clone(first), [2]int{1, 3}), api.ErrLatticePair)
	wantRefused(t, "a loop at the end", 3, append(slices.Clone(first), [2]int{1, 0}), api.ErrLatticeLoop)
}

func TestNewOfNoLevel(t *testing.T) {
	for n := 1; n <= api.MaxLevels; n++ {
		for _, no := range noLevels(n) {
			for _, p := range []([2]int){{no, 0}, {0, no}, {no, n - 1}, {n - 1, no}, {no, no}, {no, -1}} {
				wantRefused(t, "no level", n, pairs{p}, api.ErrLatticePair)
				wantRefused(t, "no level, ahead of others", n, append(pairs{p}, chain(n)...), api.ErrLatticePair)
				wantRefused(t, "no level, behind others", n, append(chain(n), p), api.ErrLatticePair)
			}
		}
	}
}

func TestNewOfALoop(t *testing.T) {
	for n := 2; n <= api.MaxLevels; n++ {
		for a := range n {
			for b := range a {
				wantRefused(t, "a loop in a row", n, append(chain(n), [2]int{a, b}), api.ErrLatticeLoop)
				wantRefused(t, "a loop of two", n, pairs{{b, a}, {a, b}}, api.ErrLatticeLoop)
				wantRefused(t, "a loop of two", n, pairs{{a, b}, {b, a}}, api.ErrLatticeLoop)
			}
		}
	}
	wantRefused(t, "a loop of three", 4, pairs{{0, 1}, {1, 2}, {2, 1}, {1, 3}, {2, 3}}, api.ErrLatticeLoop)
	wantRefused(t, "a loop of eight", 8, pairs{{3, 1}, {1, 6}, {6, 0}, {0, 7}, {7, 2}, {2, 5}, {5, 4}, {4, 3}}, api.ErrLatticeLoop)
	wantRefused(t, "a loop at the end", 8, append(slices.Clone(cube), [2]int{7, 6}), api.ErrLatticeLoop)
}

func TestNewWithoutJoinOrMeet(t *testing.T) {
	for n := 2; n <= api.MaxLevels; n++ {
		wantRefused(t, "no pairs", n, nil, api.ErrLatticeJoin)
		wantRefused(t, "the last level apart", n, chain(n-1), api.ErrLatticeJoin)
	}
	for _, x := range []struct {
		what string
		n    int
		l    pairs
	}{
		{"levels and themselves", 2, pairs{{0, 0}, {1, 1}}},
		{"no join", 3, pairs{{0, 1}, {0, 2}}},
		{"no meet", 3, pairs{{0, 2}, {1, 2}}},
		{"neither", 4, pairs{{0, 1}, {2, 3}}},
		{"no join, two bounds above", 4, pairs{{0, 2}, {0, 3}, {1, 2}, {1, 3}}},
		{"a least and a greatest, but two bounds between", 6, pairs{{0, 1}, {0, 2}, {1, 3}, {1, 4}, {2, 3}, {2, 4}, {3, 5}, {4, 5}}},
		{"the same, numbered otherwise", 6, pairs{{5, 3}, {5, 2}, {3, 0}, {3, 4}, {2, 0}, {2, 4}, {0, 1}, {4, 1}}},
		{"a cube whose greatest level is apart", 8, slices.DeleteFunc(slices.Clone(cube), func(p [2]int) bool { return p[1] == 7 })},
		{"a cube whose least level is apart", 8, slices.DeleteFunc(slices.Clone(cube), func(p [2]int) bool { return p[0] == 0 })},
	} {
		wantRefused(t, x.what, x.n, x.l, api.ErrLatticeJoin)
	}
}

func TestTheOrderOfTheErrors(t *testing.T) {
	bad := pairs{{0, 1}, {1, 0}, {0, -1}}
	for _, n := range []int{0, 9} {
		wantRefused(t, "no size, no level, a loop", n, bad, api.ErrLatticeSize)
	}
	wantRefused(t, "too many pairs, no level, a loop", 3, repeated(bad, 65), api.ErrLatticeSize)
	wantRefused(t, "too many pairs, and only the last no level", 2, append(repeated(chain(2), 64), [2]int{0, 2}), api.ErrLatticeSize)
	wantRefused(t, "64 pairs, no level, a loop, no join", 3, repeated(bad, 64), api.ErrLatticePair)
	wantRefused(t, "no level behind a loop, no join", 3, bad, api.ErrLatticePair)
	wantRefused(t, "no level behind what has no join", 3, pairs{{0, 1}, {0, 2}, {3, 0}}, api.ErrLatticePair)
	wantRefused(t, "a loop, and no join of others", 4, pairs{{0, 1}, {1, 0}}, api.ErrLatticeLoop)
	wantRefused(t, "no join, and a loop of the last ones", 4, pairs{{0, 1}, {2, 3}, {3, 2}}, api.ErrLatticeLoop)
}

// P4.2

func TestADiamond(t *testing.T) {
	l := latticeOf(t, 4, diamond)
	if l.Levels() != 4 || l.Join(1, 2) != 3 || l.Meet(1, 2) != 0 || l.Join(0, 2) != 2 || l.Join(1, 9) != -1 || l.Top() != 3 || l.Bottom() != 0 {
		t.Error(l.Levels(), l.Join(1, 2), l.Meet(1, 2), l.Join(0, 2), l.Join(1, 9), l.Top(), l.Bottom())
	}
	if !l.Flows(0, 3) || l.Flows(1, 2) || l.Flows(9, 9) || l.Flows(3, 0) || !l.Flows(2, 2) {
		t.Error(l.Flows(0, 3), l.Flows(1, 2), l.Flows(9, 9), l.Flows(3, 0), l.Flows(2, 2))
	}
	wantInts(t, "above 1", l.Above(1), []int{1, 3})
	wantInts(t, "below 3", l.Below(3), []int{0, 1, 2, 3})
	wantInts(t, "above 3", l.Above(3), []int{3})
	wantInts(t, "below 0", l.Below(0), []int{0})
}

func TestOneLevel(t *testing.T) {
	l := latticeOf(t, 1, nil)
	if l.Levels() != 1 || !l.Flows(0, 0) || l.Join(0, 0) != 0 || l.Meet(0, 0) != 0 || l.Top() != 0 || l.Bottom() != 0 {
		t.Error(l.Levels(), l.Flows(0, 0), l.Join(0, 0), l.Meet(0, 0), l.Top(), l.Bottom())
	}
	wantInts(t, "above", l.Above(0), []int{0})
	wantInts(t, "below", l.Below(0), []int{0})
	wantPairs(t, "the pairs", l.Pairs(), nil)
}

// Of a cube's levels, which are numbers of three bits, all is told by their bits.
func TestACube(t *testing.T) {
	l := latticeOf(t, 8, cube)
	for a := range 8 {
		for b := range 8 {
			if l.Flows(a, b) != (a&b == a) || l.Join(a, b) != a|b || l.Meet(a, b) != a&b {
				t.Errorf("of %d and %d: %v, %d, %d", a, b, l.Flows(a, b), l.Join(a, b), l.Meet(a, b))
			}
		}
	}
	if l.Levels() != 8 || l.Top() != 7 || l.Bottom() != 0 {
		t.Error(l.Levels(), l.Top(), l.Bottom())
	}
	wantInts(t, "above 5", l.Above(5), []int{5, 7})
	wantInts(t, "above 0", l.Above(0), []int{0, 1, 2, 3, 4, 5, 6, 7})
	wantInts(t, "below 6", l.Below(6), []int{0, 2, 4, 6})
}

func TestTopAndBottomAnywhere(t *testing.T) {
	l := latticeOf(t, 3, pairs{{2, 0}, {0, 1}})
	if l.Top() != 1 || l.Bottom() != 2 {
		t.Error(l.Top(), l.Bottom())
	}
	for top := range 8 {
		for bottom := range 8 {
			if top == bottom {
				continue
			}
			var p pairs
			for a := range 8 {
				p = append(p, [2]int{a, top}, [2]int{bottom, a})
			}
			l := latticeOf(t, 8, p)
			if l.Top() != top || l.Bottom() != bottom {
				t.Errorf("top %d, not %d; bottom %d, not %d", l.Top(), top, l.Bottom(), bottom)
			}
		}
	}
}

func TestCallsWithNoLevel(t *testing.T) {
	for n := 1; n <= api.MaxLevels; n++ {
		l := latticeOf(t, n, chain(n))
		for _, no := range noLevels(n) {
			for _, other := range []int{0, n - 1, no, -1, n} {
				for _, p := range [][2]int{{no, other}, {other, no}} {
					a, b := p[0], p[1]
					if l.Flows(a, b) || l.Join(a, b) != -1 || l.Meet(a, b) != -1 {
						t.Errorf("%d levels, %d and %d: %v, %d, %d", n, a, b, l.Flows(a, b), l.Join(a, b), l.Meet(a, b))
					}
				}
			}
			wantInts(t, "above what is no level", l.Above(no), nil)
			wantInts(t, "below what is no level", l.Below(no), nil)
		}
	}
}

// P4.3

func TestPairs(t *testing.T) {
	for _, x := range []struct {
		what    string
		n       int
		l, want pairs
	}{
		{"one level", 1, pairs{{0, 0}}, nil},
		{"two levels", 2, pairs{{1, 0}, {0, 0}, {1, 0}}, pairs{{1, 0}}},
		{"a diamond", 4, diamond, pairs{{0, 1}, {0, 2}, {1, 3}, {2, 3}}},
		{"a row with all that follows", 4, pairs{{0, 3}, {0, 2}, {1, 3}, {2, 3}, {1, 2}, {0, 1}}, pairs{{0, 1}, {1, 2}, {2, 3}}},
		{"a row that doesn't rise", 4, pairs{{3, 1}, {1, 2}, {2, 0}}, pairs{{1, 2}, {2, 0}, {3, 1}}},
		{"a pentagon", 5, pentagon, pairs{{0, 1}, {0, 3}, {1, 2}, {2, 4}, {3, 4}}},
		{"a cube", 8, cube, cube},
		{"a cube, the other way", 8, pairs{{7, 6}, {7, 5}, {6, 4}, {7, 3}, {6, 2}, {5, 4}, {5, 1}, {4, 0}, {3, 2}, {3, 1}, {2, 0}, {1, 0}},
			pairs{{1, 0}, {2, 0}, {3, 1}, {3, 2}, {4, 0}, {5, 1}, {5, 4}, {6, 2}, {6, 4}, {7, 3}, {7, 5}, {7, 6}}},
		{"eight levels in a row", 8, chain(8), chain(8)},
	} {
		wantPairs(t, x.what, latticeOf(t, x.n, x.l).Pairs(), x.want)
	}
}

// P4.1 to P4.4 of all pairs of few levels

// Of n levels with names there are so many lattices: a known row, in which each counts once, however it is told.
func TestEveryOrderOfFewLevels(t *testing.T) {
	for n, want := range map[int]int{1: 1, 2: 2, 3: 6, 4: 36} {
		made := map[string]bool{}
		everyOrder(n, func(p pairs) {
			o := orderOf(n, p)
			l, e := lattice.New(n, p)
			if e != o.refusal() || (l != nil) != (e == api.OK) {
				t.Fatalf("New(%d, %v): %v, %d, not %d", n, p, l != nil, e, o.refusal())
			}
			if l == nil {
				return
			}
			name := ""
			for a := range n {
				for b := range n {
					if l.Flows(a, b) {
						name += string([]byte{byte('a' + a), byte('a' + b)})
					}
				}
			}
			made[name] = true
			wantOrder(t, l, o)
			wantLaws(t, l)
		})
		if len(made) != want {
			t.Errorf("%d lattices of %d levels, not %d", len(made), n, want)
		}
	}
}

func TestAnyPairs(t *testing.T) {
	rnd := rand.New(rand.NewSource(41))
	said := map[api.Errno]int{}
	for range 4000 {
		n, p := anyPairs(rnd)
		o := orderOf(n, p)
		l, e := lattice.New(n, p)
		said[e]++
		if e != o.refusal() || (l != nil) != (e == api.OK) {
			t.Fatalf("New(%d, %v): %v, %d, not %d", n, p, l != nil, e, o.refusal())
		}
		if l != nil {
			wantOrder(t, l, o)
		}
	}
	for _, e := range []api.Errno{api.OK, api.ErrLatticeLoop, api.ErrLatticeJoin} {
		if said[e] < 200 {
			t.Errorf("%d was said %d times alone", e, said[e])
		}
	}
}

// P4.4

// wantLaws holds what P4.4 says of joins, meets, top and bottom, and of pairs.
func wantLaws(t *testing.T, l *lattice.Lattice) {
	t.Helper()
	top, bottom := l.Levels()-1, l.Levels()-1
	for a := range l.Levels() {
		top, bottom = l.Join(top, a), l.Meet(bottom, a)
		for b := range l.Levels() {
			if l.Join(a, b) != l.Join(b, a) || l.Meet(a, b) != l.Meet(b, a) {
				t.Fatalf("%v: the order of %d and %d counts", l.Pairs(), a, b)
			}
			if l.Join(a, l.Meet(a, b)) != a || l.Meet(a, l.Join(a, b)) != a {
				t.Fatalf("%v: %d and %d don't give %d back", l.Pairs(), a, b, a)
			}
			if l.Flows(a, b) != (l.Join(a, b) == b) || l.Flows(a, b) != (l.Meet(a, b) == a) {
				t.Fatalf("%v: %d and %d flow otherwise than they join", l.Pairs(), a, b)
			}
			for c := range l.Levels() {
				if l.Join(l.Join(a, b), c) != l.Join(a, l.Join(b, c)) || l.Meet(l.Meet(a, b), c) != l.Meet(a, l.Meet(b, c)) {
					t.Fatalf("%v: brackets about %d, %d and %d count", l.Pairs(), a, b, c)
				}
			}
		}
	}
	if l.Top() != top || l.Bottom() != bottom {
		t.Fatalf("%v: top %d, not %d; bottom %d, not %d", l.Pairs(), l.Top(), top, l.Bottom(), bottom)
	}
	wantSameOfPairs(t, l)
}

func flowsOf(l *lattice.Lattice) [][]int {
	var all [][]int
	for a := range l.Levels() {
		all = append(all, l.Above(a))
	}
	return all
}

func isSame(l, k *lattice.Lattice) bool {
	return slices.EqualFunc(flowsOf(l), flowsOf(k), slices.Equal)
}

// wantSameOfPairs: the pairs that l tells make the same lattice, and without any one of them another one, or none.
func wantSameOfPairs(t *testing.T, l *lattice.Lattice) {
	t.Helper()
	told := l.Pairs()
	again := latticeOf(t, l.Levels(), told)
	if !isSame(again, l) {
		t.Fatalf("%v tell another lattice", told)
	}
	wantPairs(t, "the pairs of the pairs", again.Pairs(), told)
	for i := range told {
		left := slices.Delete(slices.Clone(told), i, i+1)
		if less, e := lattice.New(l.Levels(), left); e == api.OK && isSame(less, l) {
			t.Fatalf("of %v the pair %v could be left out", told, told[i])
		}
	}
}

func TestLaws(t *testing.T) {
	rnd := rand.New(rand.NewSource(42))
	sizes := map[int]int{}
	for range 400 {
		n, p := anyLattice(rnd)
		sizes[n]++
		wantLaws(t, latticeOf(t, n, p))
	}
	for n := 1; n <= api.MaxLevels; n++ {
		if sizes[n] == 0 {
			t.Errorf("no lattice of %d levels", n)
		}
	}
	for _, l := range []*lattice.Lattice{latticeOf(t, 8, cube), latticeOf(t, 8, chain(8)), latticeOf(t, 5, pentagon)} {
		wantLaws(t, l)
	}
}

// What is told hangs on what follows from the pairs, not on their order or on those that follow from others.
func TestTheOrderOfPairsDoesNotCount(t *testing.T) {
	rnd := rand.New(rand.NewSource(43))
	for range 300 {
		n, p := anyLattice(rnd)
		l := latticeOf(t, n, p)
		rnd.Shuffle(len(p), func(i, j int) { p[i], p[j] = p[j], p[i] })
		if !isSame(l, latticeOf(t, n, p)) {
			t.Fatalf("%v tell another lattice in this order", p)
		}
	}
}

// R4, R5, and that a lattice never changes

func TestPairsAreLeftAsTheyAre(t *testing.T) {
	whole := append(slices.Clone(diamond), [2]int{9, 9}, [2]int{8, 8})
	latticeOf(t, 4, whole[:5])
	wantRefused(t, "no join", 4, whole[:3], api.ErrLatticeJoin)
	wantRefused(t, "no level", 4, whole[:6], api.ErrLatticePair)
	wantPairs(t, "the pairs that were handed in", whole, append(slices.Clone(diamond), [2]int{9, 9}, [2]int{8, 8}))
}

func TestPairsAreNotKept(t *testing.T) {
	handed := slices.Clone(diamond)
	l := latticeOf(t, 4, handed)
	for i := range handed {
		handed[i] = [2]int{3, 0}
	}
	wantOrder(t, l, orderOf(4, diamond))
}

// What is told is the caller's own, spare room too.
func TestWhatIsToldIsNewMemory(t *testing.T) {
	l := latticeOf(t, 8, cube)
	for a := range 8 {
		for _, told := range [][]int{l.Above(a), l.Below(a)} {
			for i := range told[:cap(told)] {
				told[:cap(told)][i] = 77
			}
		}
	}
	told := l.Pairs()
	for i := range told[:cap(told)] {
		told[:cap(told)][i] = [2]int{7, 0}
	}
	wantOrder(t, l, orderOf(8, cube))
}

func TestLatticesAreApart(t *testing.T) {
	l := latticeOf(t, 4, diamond)
	k := latticeOf(t, 4, chain(4))
	wantOrder(t, l, orderOf(4, diamond))
	wantOrder(t, k, orderOf(4, chain(4)))
	for range 2 {
		wantRefused(t, "a loop", 4, append(chain(4), [2]int{3, 0}), api.ErrLatticeLoop)
		wantOrder(t, l, orderOf(4, diamond))
	}
}
