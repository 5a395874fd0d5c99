package sched_test

import (
	"math"
	"math/rand"
	"testing"

	"castellan/api"
	"castellan/sched"
)

// noParts are no partitions of n.
func noParts(n int) []int {
	return []int{-1, -2, n, n + 1, n + 8, 256, 1 << 32, math.MinInt, math.MaxInt}
}

func tableOf(t *testing.T, parts int) *sched.Table {
	t.Helper()
	table, e := sched.NewTable(parts)
	if table == nil || e != api.OK {
		t.Fatalf("NewTable(%d): %v, %d", parts, table != nil, e)
	}
	return table
}

func wantEnter(t *testing.T, table *sched.Table, part int, anew bool, e api.Errno) {
	t.Helper()
	if got, ge := table.Enter(part); got != anew || ge != e {
		t.Errorf("Enter(%d): %v, %d, not %v, %d", part, got, ge, anew, e)
	}
}

func wantState(t *testing.T, table *sched.Table, part int, runs bool, starts int) {
	t.Helper()
	if got, n := table.Runs(part), table.Starts(part); got != runs || n != starts {
		t.Errorf("partition %d: Runs %v, Starts %d, not %v, %d", part, got, n, runs, starts)
	}
}

// life is what is known of one partition by chapter 13's words: its own starts and traps, in their order.
type life string

func (l life) runs() bool {
	return l != "" && l[len(l)-1] == 's'
}

func (l life) starts() int {
	n := 0
	for _, x := range l {
		if x == 's' {
			n++
		}
	}
	return n
}

func wantLives(t *testing.T, table *sched.Table, lives []life) {
	t.Helper()
	for part, l := range lives {
		wantState(t, table, part, l.runs(), l.starts())
	}
	for _, part := range noParts(len(lives)) {
		wantState(t, table, part, false, 0)
	}
}

// The chapter's example.

func TestExampleOfATable(t *testing.T) {
	table := tableOf(t, 1)
	wantEnter(t, table, 0, true, api.OK)
	wantEnter(t, table, 0, false, api.OK)
	want(t, "Trap(0)", table.Trap(0), api.OK)
	wantState(t, table, 0, false, 1)
	wantEnter(t, table, 0, true, api.OK)
	wantState(t, table, 0, true, 2)
	wantEnter(t, table, 1, false, api.ErrArg)
}

// P13.4

func TestTablesOfHowMany(t *testing.T) {
	for parts := 0; parts <= 8; parts++ {
		wantLives(t, tableOf(t, parts), make([]life, parts))
	}
	for _, parts := range []int{-1, -2, -8, 9, 10, 16, 256, 1 << 32, 1<<32 + 1, math.MinInt, math.MaxInt} {
		if table, e := sched.NewTable(parts); table != nil || e != api.ErrArg {
			t.Errorf("NewTable(%d): %v, %d", parts, table != nil, e)
		}
	}
}

// Of a partition that is not there Enter and Trap are refused, and change nothing.
func TestPartsThatAreNone(t *testing.T) {
	for parts := 0; parts <= 8; parts++ {
		table, lives := tableOf(t, parts), make([]life, parts)
		for round := range 3 {
			for _, part := range noParts(parts) {
				wantEnter(t, table, part, false, api.ErrArg)
				want(t, "Trap", table.Trap(part), api.ErrArg)
			}
			wantLives(t, table, lives)
			for part := range parts {
				if round == 0 {
					wantEnter(t, table, part, true, api.OK)
					lives[part] += "s"
				} else {
					want(t, "Trap", table.Trap(part), api.OK)
					lives[part] += "t"
				}
			}
			wantLives(t, table, lives)
		}
	}
}

// All rows of up to seven calls on one partition of each place.
func TestAllShortLives(t *testing.T) {
	for row := 1; row < 1<<8; row++ {
		for part := range 3 {
			table, lives := tableOf(t, 3), make([]life, 3)
			for left := row; left > 1; left /= 2 {
				if left%2 == 0 {
					want(t, "Trap", table.Trap(part), api.OK)
					lives[part] += "t"
				} else {
					runs := lives[part].runs()
					wantEnter(t, table, part, !runs, api.OK)
					if !runs {
						lives[part] += "s"
					}
				}
				wantLives(t, table, lives)
			}
		}
	}
}

func TestManyStarts(t *testing.T) {
	table := tableOf(t, 2)
	for n := 1; n <= 70000; n++ {
		wantEnter(t, table, 1, true, api.OK)
		want(t, "Trap", table.Trap(1), api.OK)
		wantState(t, table, 1, false, n)
	}
	wantState(t, table, 0, false, 0)
}

func TestClone(t *testing.T) {
	table := tableOf(t, 3)
	wantEnter(t, table, 0, true, api.OK)
	wantEnter(t, table, 1, true, api.OK)
	want(t, "Trap", table.Trap(1), api.OK)
	c := table.Clone()
	wantLives(t, c, []life{"s", "st", ""})
	want(t, "Trap", table.Trap(0), api.OK)
	wantEnter(t, table, 1, true, api.OK)
	wantLives(t, c, []life{"s", "st", ""})
	wantEnter(t, c, 2, true, api.OK)
	wantEnter(t, c, 0, false, api.OK)
	wantLives(t, table, []life{"st", "sts", ""})
	wantLives(t, c, []life{"s", "st", "s"})
	wantLives(t, tableOf(t, 0).Clone(), nil)
}

// Long random runs, with clones, each call's answer held against each partition's own calls.
func TestTablesAsModel(t *testing.T) {
	rnd := rand.New(rand.NewSource(51))
	for range 200 {
		parts := rnd.Intn(9)
		table, lives := tableOf(t, parts), make([]life, parts)
		for range 150 {
			part := rnd.Intn(parts+2) - 1
			there := part >= 0 && part < parts
			switch rnd.Intn(5) {
			case 0, 1:
				if !there {
					wantEnter(t, table, part, false, api.ErrArg)
					continue
				}
				runs := lives[part].runs()
				wantEnter(t, table, part, !runs, api.OK)
				if !runs {
					lives[part] += "s"
				}
			case 2, 3:
				if !there {
					want(t, "Trap", table.Trap(part), api.ErrArg)
					continue
				}
				want(t, "Trap", table.Trap(part), api.OK)
				lives[part] += "t"
			default:
				c := table.Clone()
				if rnd.Intn(2) == 0 {
					c, table = table, c
				}
				// What is given up has no more to do with what is gone on with.
				for p := range parts {
					c.Enter(p)
					if rnd.Intn(2) == 0 {
						c.Trap(p)
					}
				}
			}
			wantLives(t, table, lives)
		}
	}
}

// P13.5

// What is told of one is the same whatever is done to others.
func TestPartsAreApart(t *testing.T) {
	rnd := rand.New(rand.NewSource(52))
	for range 200 {
		parts := 2 + rnd.Intn(7)
		part := rnd.Intn(parts)
		quiet, loud := tableOf(t, parts), tableOf(t, parts)
		for range 60 {
			other := (part + 1 + rnd.Intn(parts-1)) % parts
			loud.Enter(other)
			if rnd.Intn(2) == 0 {
				loud.Trap(other)
			}
			if rnd.Intn(2) == 0 {
				anew, e := quiet.Enter(part)
				wantEnter(t, loud, part, anew, e)
			} else {
				want(t, "Trap", loud.Trap(part), quiet.Trap(part))
			}
			wantState(t, loud, part, quiet.Runs(part), quiet.Starts(part))
		}
	}
}
