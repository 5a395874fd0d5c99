package config

import "castellan/api"

// leastNeed is what is needed however many ticks the windows have.
const leastNeed = 2

// need is Need, of a form that has a window for each that needs one.
func (f *form) need() int {
	frames := 0
	for _, p := range f.Parts {
		frames = max(frames, quotientUp(f.partsOf(p.Level), f.ticks(api.WinFiles, p.Level)))
	}
	if len(f.Rules) > 0 {
		frames = max(frames, quotientUp(api.MaxQueue*f.pairs(), f.ticks(api.WinGuard, 0)))
	}
	return leastNeed + frames
}

func quotientUp(n, by int) int {
	return (n + by - 1) / by
}

// partsOf is how many partitions have a level.
func (f *form) partsOf(level int) int {
	n := 0
	for _, p := range f.Parts {
		if p.Level == level {
			n++
		}
	}
	return n
}

// pairs is how many unlike pairs of levels the rules have.
func (f *form) pairs() int {
	var seen [api.MaxLevels][api.MaxLevels]bool
	n := 0
	for _, r := range f.Rules {
		if !seen[r.From][r.To] {
			n++
		}
		seen[r.From][r.To] = true
	}
	return n
}
