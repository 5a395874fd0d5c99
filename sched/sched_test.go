package sched_test

import (
	"math"
	"slices"
	"testing"

	"castellan/api"
	"castellan/sched"
)

// most is the last tick.
const most = 1 << 40

// noTicks are none.
var noTicks = []int{-1, -2, -7, math.MinInt, math.MinInt + 1, most + 1, most + 2, most + 7, 1 << 41, math.MaxInt}

// example is that of the chapter.
func example() []api.Window {
	return []api.Window{{Kind: api.WinPart, Ticks: 2}, {Kind: api.WinIdle, Ticks: 1}, {Kind: api.WinPart, Ticks: 1}, {Kind: api.WinFiles, Index: 1, Ticks: 3}}
}

func want(t *testing.T, what string, got, e api.Errno) {
	t.Helper()
	if got != e {
		t.Errorf("%s: %d, not %d", what, got, e)
	}
}

func wantLength(t *testing.T, l []api.Window, n int, e api.Errno) {
	t.Helper()
	if got, ge := sched.Length(l); got != n || ge != e {
		t.Errorf("Length(%v): %d, %d, not %d, %d", l, got, ge, n, e)
	}
}

func wantAt(t *testing.T, l []api.Window, at int, p sched.Place, e api.Errno) {
	t.Helper()
	if got, ge := sched.At(l, at); got != p || ge != e {
		t.Errorf("At(%v, %d): %v, %d, not %v, %d", l, at, got, ge, p, e)
	}
}

func wantTicks(t *testing.T, l []api.Window, kind, index, from, to, n int, e api.Errno) {
	t.Helper()
	if got, ge := sched.Ticks(l, kind, index, from, to); got != n || ge != e {
		t.Errorf("Ticks(%v, %d, %d, %d, %d): %d, %d, not %d, %d", l, kind, index, from, to, got, ge, n, e)
	}
}

func wantNext(t *testing.T, l []api.Window, kind, index, from, n int, e api.Errno) {
	t.Helper()
	if got, ge := sched.Next(l, kind, index, from); got != n || ge != e {
		t.Errorf("Next(%v, %d, %d, %d): %d, %d, not %d, %d", l, kind, index, from, got, ge, n, e)
	}
}

// wantRefused holds that every call refuses windows, whatever else it is given.
func wantRefused(t *testing.T, l []api.Window) {
	t.Helper()
	if e := sched.Check(l); e != api.ErrSchedForm {
		t.Errorf("Check(%v): %d", l, e)
	}
	wantLength(t, l, 0, api.ErrSchedForm)
	for _, at := range []int{0, 1, most, -1, most + 1, math.MinInt} {
		wantAt(t, l, at, sched.Place{}, api.ErrSchedForm)
		wantNext(t, l, 1, 0, at, 0, api.ErrSchedForm)
		wantNext(t, l, 7, 7, at, 0, api.ErrSchedForm)
		for _, to := range []int{0, most, -1, most + 1} {
			wantTicks(t, l, 1, 0, at, to, 0, api.ErrSchedForm)
		}
	}
}

// wantTaken holds that windows may be, and how long they are.
func wantTaken(t *testing.T, l []api.Window, length int) {
	t.Helper()
	if e := sched.Check(l); e != api.OK {
		t.Errorf("Check(%v): %d", l, e)
	}
	wantLength(t, l, length, api.OK)
}

// The chapter's examples.

func TestExamples(t *testing.T) {
	l := example()
	wantTaken(t, l, 7)
	want(t, "Check(none)", sched.Check(nil), api.ErrSchedForm)
	wantAt(t, l, 0, sched.Place{}, api.OK)
	wantAt(t, l, 3, sched.Place{Major: 0, Window: 2, Offset: 0}, api.OK)
	wantAt(t, l, 13, sched.Place{Major: 1, Window: 3, Offset: 2}, api.OK)
	wantTicks(t, l, api.WinPart, 0, 0, 7, 3, api.OK)
	wantTicks(t, l, api.WinPart, 0, 1, 9, 4, api.OK)
	wantTicks(t, l, api.WinFiles, 1, 4, 4, 0, api.OK)
	wantTicks(t, l, api.WinIdle, 0, 3, 2, 0, api.ErrArg)
	wantNext(t, l, api.WinPart, 0, 0, 0, api.OK)
	wantNext(t, l, api.WinPart, 0, 1, 3, api.OK)
	wantNext(t, l, api.WinPart, 0, 4, 7, api.OK)
	wantNext(t, l, api.WinNet, 0, 0, 0, api.ErrSchedForm)
}

// P13.1

func TestHowManyWindows(t *testing.T) {
	wantRefused(t, nil)
	wantRefused(t, []api.Window{})
	for n := 1; n <= 200; n++ {
		for _, ticks := range []int{1, 2, 255} {
			l := slices.Repeat([]api.Window{{Kind: api.WinNet, Index: 3, Ticks: ticks}}, n)
			if n > 64 {
				wantRefused(t, l)
				continue
			}
			wantTaken(t, l, n*ticks)
		}
	}
}

// wantEverywhere holds whether a window may be, alone and at all places among others.
func wantEverywhere(t *testing.T, w api.Window, may bool) {
	t.Helper()
	good := api.Window{Kind: api.WinPart, Index: 2, Ticks: 5}
	for place := range 4 {
		l := []api.Window{good, good, good}
		l = slices.Insert(l, place, w)
		if may {
			wantTaken(t, l, 15+w.Ticks)
			wantTaken(t, l[:place+1], 5*place+w.Ticks)
			continue
		}
		wantRefused(t, l)
		wantRefused(t, l[:place+1])
	}
}

func TestTicksOfAWindow(t *testing.T) {
	for _, kind := range []int{0, 1, 2, 3, 4} {
		for ticks := -3; ticks <= 260; ticks++ {
			wantEverywhere(t, api.Window{Kind: kind, Ticks: ticks}, ticks >= 1 && ticks <= 255)
		}
		for _, ticks := range []int{-255, 510, 511, 512, 1<<32 + 1, most, math.MinInt, math.MaxInt} {
			wantEverywhere(t, api.Window{Kind: kind, Ticks: ticks}, false)
		}
	}
}

// Ticks that are too many, whose sum is none or few again.
func TestTicksThatGoRound(t *testing.T) {
	wantRefused(t, []api.Window{{Ticks: math.MaxInt}, {Ticks: math.MaxInt}, {Ticks: 3}})
	wantRefused(t, []api.Window{{Ticks: math.MinInt}, {Ticks: math.MinInt}, {Ticks: 1}})
	wantRefused(t, []api.Window{{Ticks: -1}, {Ticks: 1}})
	wantRefused(t, []api.Window{{Ticks: 2}, {Ticks: -1}})
}

func TestKindsAndIndexes(t *testing.T) {
	for kind := -3; kind <= 9; kind++ {
		for index := -3; index <= 20; index++ {
			may := false
			switch kind {
			case api.WinIdle, api.WinGuard:
				may = index == 0
			case api.WinPart, api.WinFiles, api.WinNet:
				may = index >= 0 && index <= 7
			}
			wantEverywhere(t, api.Window{Kind: kind, Index: index, Ticks: 7}, may)
		}
	}
	for _, n := range []int{256, 1 << 32, 1<<32 + 1, math.MinInt, math.MinInt + 1, math.MaxInt} {
		wantEverywhere(t, api.Window{Kind: n, Ticks: 1}, false)
		for _, kind := range []int{0, 1, 2, 3, 4} {
			wantEverywhere(t, api.Window{Kind: kind, Index: n, Ticks: 1}, false)
		}
	}
}

// More than one thing that is wrong is no better.
func TestMoreThanOneWrong(t *testing.T) {
	wantRefused(t, []api.Window{{Kind: 5, Index: 8, Ticks: 256}})
	wantRefused(t, []api.Window{{Kind: -1, Index: -1}, {Ticks: -1}})
	wantRefused(t, make([]api.Window, 65))
	wantRefused(t, make([]api.Window, 64))
}

// R4: the windows stay as they are, and the room behind them; what was told does not hang on them any more.
func TestWindowsStayTheCallers(t *testing.T) {
	room := append(example(), api.Window{Kind: 77, Index: 78, Ticks: 79}, api.Window{})
	before := slices.Clone(room)
	l := room[:4]
	for range 2 {
		wantTaken(t, l, 7)
		wantAt(t, l, 13, sched.Place{Major: 1, Window: 3, Offset: 2}, api.OK)
		wantTicks(t, l, api.WinPart, 0, 1, 9, 4, api.OK)
		wantNext(t, l, api.WinPart, 0, 4, 7, api.OK)
	}
	if !slices.Equal(room, before) {
		t.Errorf("the windows were changed: %v", room)
	}
	l[0].Ticks = 1
	wantTaken(t, l, 6)
	wantAt(t, l, 13, sched.Place{Major: 2, Window: 1, Offset: 0}, api.OK)
	wantNext(t, l, api.WinPart, 0, 4, 6, api.OK)
}

// P13.2

func TestAtOfTicksThatAreNone(t *testing.T) {
	for _, at := range noTicks {
		wantAt(t, example(), at, sched.Place{}, api.ErrArg)
		wantAt(t, []api.Window{{Ticks: 1}}, at, sched.Place{}, api.ErrArg)
	}
}

func TestAtTheLastTick(t *testing.T) {
	// 2^40 is 7 * 157073089682 + 2.
	wantAt(t, example(), most, sched.Place{Major: 157073089682, Window: 1, Offset: 0}, api.OK)
	wantAt(t, []api.Window{{Ticks: 1}}, most, sched.Place{Major: most}, api.OK)
	wantAt(t, []api.Window{{Ticks: 1}, {Ticks: 1}}, most-1, sched.Place{Major: most/2 - 1, Window: 1}, api.OK)
	long := slices.Repeat([]api.Window{{Kind: api.WinGuard, Ticks: 255}}, 64)
	rest := most % (64 * 255)
	wantAt(t, long, most, sched.Place{Major: most / (64 * 255), Window: rest / 255, Offset: rest % 255}, api.OK)
}

func TestAtEachTickOfTheLongest(t *testing.T) {
	long := slices.Repeat([]api.Window{{Kind: api.WinGuard, Ticks: 255}}, 64)
	for at := range 2*64*255 + 1 {
		wantAt(t, long, at, sched.Place{Major: at / 16320, Window: at / 255 % 64, Offset: at % 255}, api.OK)
	}
}

// P13.3

func TestTicksOfTicksThatAreNone(t *testing.T) {
	for _, at := range noTicks {
		for _, o := range owners() {
			for _, good := range []int{0, 1, 7, most} {
				wantTicks(t, example(), o.kind, o.index, at, good, 0, api.ErrArg)
				wantTicks(t, example(), o.kind, o.index, good, at, 0, api.ErrArg)
			}
			wantTicks(t, example(), o.kind, o.index, at, at, 0, api.ErrArg)
		}
	}
}

func TestTicksOfFromAboveTo(t *testing.T) {
	for _, o := range owners() {
		for _, pair := range [][2]int{{1, 0}, {2, 1}, {3, 2}, {7, 0}, {9, 1}, {most, 0}, {most, most - 1}} {
			wantTicks(t, example(), o.kind, o.index, pair[0], pair[1], 0, api.ErrArg)
		}
		for _, at := range []int{0, 1, 6, 7, 8, most - 1, most} {
			wantTicks(t, example(), o.kind, o.index, at, at, 0, api.OK)
		}
	}
}

func TestTicksOfAll(t *testing.T) {
	// Behind all whole frames of 7 ticks 2 are left.
	wantTicks(t, example(), api.WinPart, 0, 0, most, most/7*3+2, api.OK)
	wantTicks(t, example(), api.WinIdle, 0, 0, most, most/7, api.OK)
	wantTicks(t, example(), api.WinFiles, 1, 0, most, most/7*3, api.OK)
	wantTicks(t, example(), api.WinFiles, 0, 0, most, 0, api.OK)
	wantTicks(t, []api.Window{{Ticks: 1}}, api.WinIdle, 0, 0, most, most, api.OK)
	wantTicks(t, []api.Window{{Ticks: 255}}, api.WinIdle, 0, 1, most, most-1, api.OK)
}

// The tick that is told as the end is not counted, the one from which is counted is.
func TestTicksOfOne(t *testing.T) {
	l := example()
	for at, o := range []owner{{1, 0}, {1, 0}, {0, 0}, {1, 0}, {2, 1}, {2, 1}, {2, 1}} {
		for _, major := range []int{0, 1, 2, 1000, most/7 - 1} {
			wantTicks(t, l, o.kind, o.index, 7*major+at, 7*major+at+1, 1, api.OK)
			wantTicks(t, l, 3, 0, 7*major+at, 7*major+at+1, 0, api.OK)
		}
	}
	// The last tick itself is counted by none.
	wantTicks(t, l, api.WinPart, 0, most-1, most, 1, api.OK)
	wantTicks(t, l, api.WinPart, 0, most, most, 0, api.OK)
}

func TestNextOfTicksThatAreNone(t *testing.T) {
	for _, at := range noTicks {
		for _, o := range owners() {
			wantNext(t, example(), o.kind, o.index, at, 0, api.ErrArg)
		}
	}
}

// Kind and index of a window are both asked for.
func TestNextOfNone(t *testing.T) {
	l := []api.Window{{Kind: 1, Index: 2, Ticks: 2}, {Kind: 2, Index: 1, Ticks: 1}, {Kind: 0, Ticks: 1}}
	for _, at := range []int{0, 1, 2, 3, 4, 5, 1000, most - 1, most} {
		for _, o := range []owner{{1, 1}, {2, 2}, {1, 0}, {2, 0}, {0, 1}, {0, 2}, {3, 1}, {4, 0}, {-1, 0}, {5, 0}, {1, -1}, {math.MinInt, math.MinInt}, {math.MaxInt, math.MaxInt}} {
			wantNext(t, l, o.kind, o.index, at, 0, api.ErrSchedForm)
			wantTicks(t, l, o.kind, o.index, 0, at, 0, api.OK)
		}
	}
}

// What comes next may be above the last tick.
func TestNextBehindTheLastTick(t *testing.T) {
	l := example()
	begin := most - most%7
	wantNext(t, l, api.WinPart, 0, begin, begin, api.OK)
	wantNext(t, l, api.WinPart, 0, most-1, begin+3, api.OK)
	wantNext(t, l, api.WinPart, 0, most, begin+3, api.OK)
	wantNext(t, l, api.WinIdle, 0, most, begin+2, api.OK)
	wantNext(t, l, api.WinFiles, 1, most, begin+4, api.OK)
	one := []api.Window{{Kind: api.WinGuard, Ticks: 1}}
	wantNext(t, one, api.WinGuard, 0, most, most, api.OK)
	three := []api.Window{{Kind: api.WinGuard, Ticks: 3}}
	wantNext(t, three, api.WinGuard, 0, most-1, most-1, api.OK)
	wantNext(t, three, api.WinGuard, 0, most, most+2, api.OK)
	long := slices.Repeat([]api.Window{{Ticks: 255}}, 64)
	long[0].Kind = api.WinGuard
	wantNext(t, long, api.WinGuard, 0, most, most-most%16320+16320, api.OK)
}

// Of two windows alike, one behind the other, each has a first tick.
func TestNextOfTwoAlike(t *testing.T) {
	l := []api.Window{{Kind: 1, Index: 7, Ticks: 2}, {Kind: 1, Index: 7, Ticks: 3}}
	for at, n := range []int{0, 2, 2, 5, 5, 5, 7, 7, 10} {
		wantNext(t, l, 1, 7, at, n, api.OK)
	}
}
