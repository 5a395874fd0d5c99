package config_test

import (
	"slices"
	"testing"

	"castellan/api"
	"castellan/config"
)

// levelsOf is a chain of levels, with as many partitions of each as counts says, and windows of files of as many ticks.
func levelsOf(counts, ticks []int) api.Config {
	c := example()
	c.Levels, c.Flows, c.Parts, c.Windows, c.Volumes, c.Keys = len(counts), nil, nil, nil, nil, nil
	for level, n := range counts {
		if level > 0 {
			c.Flows = append(c.Flows, [2]int{level - 1, level})
		}
		for range n {
			c.Windows = append(c.Windows, api.Window{Kind: api.WinPart, Index: len(c.Parts), Ticks: 1})
			c.Parts = append(c.Parts, api.Part{Level: level, Pages: 1})
		}
		if ticks[level] > 0 {
			c.Windows = append(c.Windows, api.Window{Kind: api.WinFiles, Index: level, Ticks: ticks[level]})
		}
		c.Windows = append(c.Windows, api.Window{Kind: api.WinNet, Index: level, Ticks: 1})
		c.Keys = append(c.Keys, "k")
	}
	return c
}

func rulesOf(c api.Config, guardTicks int, pairs ...[2]int) api.Config {
	for _, p := range pairs {
		c.Rules = append(c.Rules, api.Rule{From: p[0], To: p[1]})
	}
	c.Windows = append(c.Windows, api.Window{Kind: api.WinGuard, Ticks: guardTicks})
	return c
}

// wantBound holds that Bound may be need, and not one less.
func wantBound(t *testing.T, what any, c api.Config, need int) {
	t.Helper()
	wantNeed(t, what, c, need)
	c.Bound = need
	wantCheck(t, what, c, api.OK)
	c.Bound = need - 1
	wantCheck(t, what, c, api.ErrConfigForm)
	wantNeed(t, what, c, need)
}

// P11.2

func TestNeedOfFiles(t *testing.T) {
	for _, x := range []struct {
		counts, ticks []int
		need          int
	}{
		{[]int{1}, []int{1}, 3},
		{[]int{1}, []int{255}, 3},
		{[]int{2}, []int{1}, 4},
		{[]int{2}, []int{2}, 3},
		{[]int{3}, []int{2}, 4},
		{[]int{8}, []int{1}, 10},
		{[]int{8}, []int{2}, 6},
		{[]int{8}, []int{3}, 5},
		{[]int{8}, []int{4}, 4},
		{[]int{8}, []int{7}, 4},
		{[]int{8}, []int{8}, 3},
		{[]int{8}, []int{9}, 3},
		{[]int{1, 5}, []int{1, 1}, 7},
		{[]int{5, 1}, []int{1, 1}, 7},
		{[]int{5, 3}, []int{5, 1}, 5},
		{[]int{5, 3}, []int{3, 3}, 4},
		{[]int{0, 3, 0}, []int{0, 2, 0}, 4},
		{[]int{0, 3, 0}, []int{1, 2, 1}, 4},
		{[]int{2, 2, 2, 2}, []int{1, 1, 1, 1}, 4},
		{[]int{2, 2, 2, 2}, []int{2, 2, 2, 1}, 4},
		{[]int{1, 1, 1, 1, 1, 1, 1, 1}, []int{1, 1, 1, 1, 1, 1, 1, 1}, 3},
	} {
		wantBound(t, x, levelsOf(x.counts, x.ticks), x.need)
	}
}

// All windows of files of a level count together, wherever they stand; those of other kinds and levels don't.
func TestNeedOfWindowsTogether(t *testing.T) {
	c := levelsOf([]int{7, 1}, []int{1, 9})
	wantBound(t, "one", c, 9)
	c.Windows = slices.Insert(c.Windows, 0, api.Window{Kind: api.WinFiles, Index: 0, Ticks: 2})
	wantBound(t, "two", c, 5)
	c.Windows = append(c.Windows, api.Window{Kind: api.WinNet, Index: 0, Ticks: 50}, api.Window{Kind: api.WinGuard, Ticks: 50}, api.Window{Ticks: 50})
	wantBound(t, "others", c, 5)
	c.Windows = append(c.Windows, api.Window{Kind: api.WinFiles, Index: 0, Ticks: 4})
	wantBound(t, "three", c, 3)
}

func TestNeedOfRules(t *testing.T) {
	down := func(from, to int) [2]int { return [2]int{from, to} }
	for _, x := range []struct {
		ticks, need int
		pairs       [][2]int
	}{
		{1, 3, nil},
		{1, 6, [][2]int{down(1, 0)}},
		{2, 4, [][2]int{down(1, 0)}},
		{3, 4, [][2]int{down(1, 0)}},
		{4, 3, [][2]int{down(1, 0)}},
		{255, 3, [][2]int{down(1, 0)}},
		{1, 6, [][2]int{down(1, 0), down(1, 0), down(1, 0)}},
		{1, 10, [][2]int{down(1, 0), down(2, 0)}},
		{1, 10, [][2]int{down(2, 0), down(2, 1)}},
		{1, 10, [][2]int{down(1, 0), down(2, 1), down(1, 0), down(2, 1), down(1, 0)}},
		{5, 4, [][2]int{down(1, 0), down(2, 1)}},
		{1, 14, [][2]int{down(1, 0), down(2, 1), down(2, 0)}},
		{11, 4, [][2]int{down(1, 0), down(2, 1), down(2, 0)}},
		{12, 3, [][2]int{down(1, 0), down(2, 1), down(2, 0)}},
	} {
		wantBound(t, x, rulesOf(levelsOf([]int{1, 1, 1}, []int{1, 1, 1}), x.ticks, x.pairs...), x.need)
	}
}

func TestNeedOfBoth(t *testing.T) {
	c := rulesOf(levelsOf([]int{5, 0}, []int{1, 0}), 1, [2]int{1, 0})
	wantBound(t, "files are slower", c, 7)
	wantBound(t, "as slow", with(c, func(c *api.Config) { c.Parts = c.Parts[:4]; c.Windows = slices.Delete(slices.Clone(c.Windows), 4, 5) }), 6)
	wantBound(t, "rules are slower", with(c, func(c *api.Config) { c.Parts = c.Parts[:3]; c.Windows = slices.Delete(slices.Clone(c.Windows), 3, 5) }), 6)
	c.Windows = append(c.Windows, api.Window{Kind: api.WinGuard, Ticks: 1})
	wantBound(t, "two guards", with(c, func(c *api.Config) { c.Parts = c.Parts[:1]; c.Windows = slices.Delete(slices.Clone(c.Windows), 1, 5) }), 4)
}

// The most that is needed: with six levels side by side, so that all 32 rules can be of unlike pairs.
func TestNeedOfMost(t *testing.T) {
	c := levelsOf([]int{1, 1, 1, 1, 1, 1, 1, 1}, []int{1, 1, 1, 1, 1, 1, 1, 1})
	c.Flows = nil
	for side := 1; side < 7; side++ {
		c.Flows = append(c.Flows, [2]int{0, side}, [2]int{side, 7})
	}
	var pairs [][2]int
	for from := 7; from > 0; from-- {
		for to := range 7 {
			if from != to && len(pairs) < 32 {
				pairs = append(pairs, [2]int{from, to})
			}
		}
	}
	wantBound(t, "32 pairs", rulesOf(c, 1, pairs...), 130)
	wantBound(t, "31 pairs", rulesOf(c, 1, append(pairs[:31:31], pairs[0])...), 126)
	wantBound(t, "in five ticks", rulesOf(c, 5, pairs...), 28)
}

// P11.3: one tick more of a window, or one rule less, never makes Need greater.
func TestNeedFalls(t *testing.T) {
	c := rulesOf(levelsOf([]int{3, 1, 4}, []int{1, 1, 1}), 1, [2]int{1, 0}, [2]int{2, 0}, [2]int{1, 0}, [2]int{2, 1})
	for range 40 {
		before := config.Need(c)
		for i, w := range c.Windows {
			if w.Kind == api.WinFiles || w.Kind == api.WinGuard {
				c.Windows[i].Ticks++
				if now := config.Need(c); now > before || now < 3 {
					t.Fatalf("a tick more of the window %d: %d, behind %d", i, now, before)
				}
				before = config.Need(c)
			}
		}
		for i := range c.Rules {
			less := with(c, func(c *api.Config) { c.Rules = slices.Delete(slices.Clone(c.Rules), i, i+1) })
			if now := config.Need(less); now > before || now < 3 {
				t.Fatalf("without the rule %d: %d, behind %d", i, now, before)
			}
		}
	}
	wantNeed(t, "then", c, 3)
}
