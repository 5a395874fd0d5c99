package sched_test

import (
	"math/rand"
	"testing"

	"castellan/api"
	"castellan/sched"
)

// tick is one of a major frame's by chapter 13's words: whose it is, in which window, and how many of its ticks lie ahead.
type tick struct {
	kind, index, window, offset int
}

// row is a major frame, tick by tick.
type row []tick

func rowOf(l []api.Window) row {
	var r row
	for i, w := range l {
		for n := range w.Ticks {
			r = append(r, tick{w.Kind, w.Index, i, n})
		}
	}
	return r
}

func (r row) tick(at int) tick {
	return r[at%len(r)]
}

func (r row) at(at int) sched.Place {
	return sched.Place{Major: at / len(r), Window: r.tick(at).window, Offset: r.tick(at).offset}
}

// ticks leaves out whole rows, of which each one has as many, and counts the others one by one.
func (r row) ticks(kind, index, from, to int) int {
	rows := (to - from) / len(r)
	n := rows * r.count(kind, index, 0, len(r))
	return n + r.count(kind, index, from+rows*len(r), to)
}

func (r row) count(kind, index, from, to int) int {
	n := 0
	for at := from; at < to; at++ {
		if t := r.tick(at); t.kind == kind && t.index == index {
			n++
		}
	}
	return n
}

func (r row) next(kind, index, from int) (int, api.Errno) {
	for at := from; at < from+len(r); at++ {
		if t := r.tick(at); t.kind == kind && t.index == index && t.offset == 0 {
			return at, api.OK
		}
	}
	return 0, api.ErrSchedForm
}

// owner is a kind and an index.
type owner struct {
	kind, index int
}

// owners are all that a window may have, and some that none has.
func owners() []owner {
	l := []owner{{0, 1}, {4, 1}, {-1, 0}, {5, 0}, {1, -1}, {2, 8}, {3, 1 << 32}}
	for _, kind := range []int{0, 1, 2, 3, 4} {
		for index := range 8 {
			if index == 0 || kind != 0 && kind != 4 {
				l = append(l, owner{kind, index})
			}
		}
	}
	return l
}

func anyWindow(rnd *rand.Rand, kinds, indexes, ticks int) api.Window {
	w := api.Window{Kind: rnd.Intn(kinds), Ticks: 1 + rnd.Intn(ticks)}
	if w.Kind != 0 && w.Kind != 4 {
		w.Index = rnd.Intn(indexes)
	}
	return w
}

// anyWindows are mostly few and short ones of few owners, at times as many and as long as there may be.
func anyWindows(rnd *rand.Rand) []api.Window {
	windows, ticks := []int{1, 3, 6, 12, 64}[rnd.Intn(5)], []int{1, 2, 5, 255}[rnd.Intn(4)]
	kinds, indexes := 1+rnd.Intn(5), 1+rnd.Intn(8)
	var l []api.Window
	for range 1 + rnd.Intn(windows) {
		l = append(l, anyWindow(rnd, kinds, indexes, ticks))
	}
	return l
}

// anyTick is often near a frame's edge, and at times near the last one.
func anyTick(rnd *rand.Rand, length int) int {
	n := 0
	switch rnd.Intn(5) {
	case 0:
		n = rnd.Intn(3 * length)
	case 1:
		n = length*rnd.Intn(5) + rnd.Intn(5) - 2
	case 2:
		n = rnd.Intn(most + 1)
	case 3:
		n = rnd.Intn(most/length)*length + rnd.Intn(5) - 2
	default:
		n = most - rnd.Intn(3*length)
	}
	return min(max(n, 0), most)
}

// wantTick holds all that is told of a tick against the model.
func wantTick(t *testing.T, l []api.Window, r row, at int) {
	t.Helper()
	wantAt(t, l, at, r.at(at), api.OK)
	for _, o := range owners() {
		n, e := r.next(o.kind, o.index, at)
		wantNext(t, l, o.kind, o.index, at, n, e)
	}
}

// Each tick of some major frames, and each pair of them, of all rows of up to three short windows of some owners.
func TestShortOnesAsModel(t *testing.T) {
	var some []api.Window
	for _, o := range []owner{{0, 0}, {1, 0}, {1, 7}, {4, 0}} {
		for _, ticks := range []int{1, 3} {
			some = append(some, api.Window{Kind: o.kind, Index: o.index, Ticks: ticks})
		}
	}
	rows := [][]api.Window{nil}
	for i := 0; len(rows[i]) < 3; i++ {
		for _, w := range some {
			rows = append(rows, append(rows[i][:len(rows[i]):len(rows[i])], w))
		}
	}
	for _, l := range rows[1:] {
		r := rowOf(l)
		wantLength(t, l, len(r), api.OK)
		for from := range 3 * len(r) {
			wantTick(t, l, r, from)
			for to := from; to <= 3*len(r); to += 1 + len(l)/2 {
				for _, o := range []owner{{0, 0}, {1, 0}, {1, 7}, {2, 7}} {
					wantTicks(t, l, o.kind, o.index, from, to, r.ticks(o.kind, o.index, from, to), api.OK)
				}
			}
		}
	}
}

// Windows by chance, at ticks from the first to the last one.
func TestAnyOnesAsModel(t *testing.T) {
	rnd := rand.New(rand.NewSource(41))
	for range 600 {
		l := anyWindows(rnd)
		r := rowOf(l)
		want(t, "Check", sched.Check(l), api.OK)
		wantLength(t, l, len(r), api.OK)
		for range 12 {
			from, to := anyTick(rnd, len(r)), anyTick(rnd, len(r))
			from, to = min(from, to), max(from, to)
			wantTick(t, l, r, from)
			o := owners()[rnd.Intn(len(owners()))]
			if rnd.Intn(3) > 0 {
				w := l[rnd.Intn(len(l))]
				o = owner{w.Kind, w.Index}
			}
			wantTicks(t, l, o.kind, o.index, from, to, r.ticks(o.kind, o.index, from, to), api.OK)
		}
	}
}

// At's places, one tick behind the other, go on as a clock does.
func TestPlacesGoOn(t *testing.T) {
	rnd := rand.New(rand.NewSource(42))
	for range 40 {
		l := anyWindows(rnd)
		p := sched.Place{}
		for at := range 3*len(rowOf(l)) + 1 {
			wantAt(t, l, at, p, api.OK)
			p.Offset++
			if p.Offset == l[p.Window].Ticks {
				p.Offset = 0
				p.Window++
			}
			if p.Window == len(l) {
				p.Window = 0
				p.Major++
			}
		}
	}
}

// P13.5

// Each tick is of just one owner, that of the window in which it lies.
func TestEachTickIsOfOne(t *testing.T) {
	rnd := rand.New(rand.NewSource(43))
	for range 60 {
		l := anyWindows(rnd)
		length, _ := sched.Length(l)
		for range 20 {
			at := min(anyTick(rnd, length), most-1)
			p, e := sched.At(l, at)
			want(t, "At", e, api.OK)
			for _, o := range owners() {
				n := 0
				if w := l[p.Window]; (owner{w.Kind, w.Index}) == o {
					n = 1
				}
				wantTicks(t, l, o.kind, o.index, at, at+1, n, api.OK)
			}
		}
	}
}

// Wherever a row as long as a major frame begins, each has in it what its windows have together.
func TestEachRowHasAsMany(t *testing.T) {
	rnd := rand.New(rand.NewSource(44))
	for range 60 {
		l := anyWindows(rnd)
		length, _ := sched.Length(l)
		for _, o := range owners() {
			sum := 0
			for _, w := range l {
				if (owner{w.Kind, w.Index}) == o {
					sum += w.Ticks
				}
			}
			for range 12 {
				from := min(anyTick(rnd, length), most-length)
				wantTicks(t, l, o.kind, o.index, from, from+length, sum, api.OK)
			}
		}
	}
}

func TestRowsAddUp(t *testing.T) {
	rnd := rand.New(rand.NewSource(45))
	for range 200 {
		l := anyWindows(rnd)
		length, _ := sched.Length(l)
		for _, o := range owners() {
			a, b, c := anyTick(rnd, length), anyTick(rnd, length), anyTick(rnd, length)
			a, b, c = min(a, b, c), max(min(a, b), min(max(a, b), c)), max(a, b, c)
			left, le := sched.Ticks(l, o.kind, o.index, a, b)
			right, re := sched.Ticks(l, o.kind, o.index, b, c)
			want(t, "Ticks", le, api.OK)
			want(t, "Ticks", re, api.OK)
			wantTicks(t, l, o.kind, o.index, a, c, left+right, api.OK)
		}
	}
}
