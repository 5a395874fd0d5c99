package config

import (
	"slices"

	"castellan/api"
	"castellan/lattice"
	"castellan/regex"
)

const (
	clauseCount = 8
	timesClause = clauseCount - 1 // the place of the one of which Need does not ask

	maxKey    = 64 // bytes
	leastByte = 33 // of a login
	mostByte  = 126
	mostTime  = 1<<16 - 1 // as wide as the bytes of a config have it
)

// form is a config, and the lattice of its levels: nil, if there is none.
type form struct {
	api.Config
	lattice *lattice.Lattice
}

func formOf(c api.Config) *form {
	l, _ := lattice.New(c.Levels, c.Flows)
	return &form{c, l}
}

// A clause is one of the rules of the form. It is asked only where all those ahead of it hold.
type clause struct {
	holds func(f *form) bool
}

// clauses are the rules 1 to 8, in their order.
func clauses() [clauseCount]clause {
	return [clauseCount]clause{
		{(*form).hasLattice},
		{(*form).partsHold},
		{(*form).windowsHold},
		{(*form).portsHold},
		{(*form).diskHolds},
		{(*form).rulesHold},
		{(*form).secretsHold},
		{(*form).timesHold},
	}
}

// holding is how many rules of the form hold ahead of the first one that refuses.
func (f *form) holding() int {
	for i, c := range clauses() {
		if !c.holds(f) {
			return i
		}
	}
	return clauseCount
}

func isWithin(n, least, most int) bool {
	return least <= n && n <= most
}

func all[T any](l []T, holds func(T) bool) bool {
	return !slices.ContainsFunc(l, func(x T) bool { return !holds(x) })
}

func (f *form) isLevel(n int) bool {
	return isWithin(n, 0, f.Levels-1)
}

func (f *form) isPart(n int) bool {
	return isWithin(n, 0, len(f.Parts)-1)
}

func (f *form) hasLattice() bool {
	return f.lattice != nil
}

func (f *form) partsHold() bool {
	return isWithin(len(f.Parts), 1, api.MaxParts) && all(f.Parts, func(p api.Part) bool {
		return isWithin(p.Pages, 1, api.MaxPages) && f.isLevel(p.Level)
	})
}

func (f *form) windowsHold() bool {
	return isWithin(len(f.Windows), 1, api.MaxWindows) && all(f.Windows, f.windowHolds) && f.hasWindows()
}

func (f *form) windowHolds(w api.Window) bool {
	if !isWithin(w.Ticks, 1, api.MaxTicks) {
		return false
	}
	switch w.Kind {
	case api.WinIdle, api.WinGuard:
		return w.Index == 0
	case api.WinPart:
		return f.isPart(w.Index)
	case api.WinFiles, api.WinNet:
		return f.isLevel(w.Index)
	}
	return false
}

// hasWindows tells whether each one that needs a window has one.
func (f *form) hasWindows() bool {
	for i, p := range f.Parts {
		if f.ticks(api.WinPart, i) == 0 || f.ticks(api.WinFiles, p.Level) == 0 || f.ticks(api.WinNet, p.Level) == 0 {
			return false
		}
	}
	return len(f.Rules) == 0 || f.ticks(api.WinGuard, 0) > 0
}

// ticks is how many all windows of a kind and an index have together; none has 0.
func (f *form) ticks(kind, index int) int {
	sum := 0
	for _, w := range f.Windows {
		if w.Kind == kind && w.Index == index {
			sum += w.Ticks
		}
	}
	return sum
}

func (f *form) portsHold() bool {
	return len(f.Ports) <= api.MaxPorts && all(f.Ports, func(p api.Port) bool {
		return f.isWay(p.From, p.To) && isWithin(p.Size, 1, api.MaxSize) && isWithin(p.Depth, 1, mostDepth(p.Kind))
	})
}

// isWay tells whether a port may lead from a partition to another one.
func (f *form) isWay(from, to int) bool {
	return f.isPart(from) && f.isPart(to) && from != to && f.lattice.Flows(f.Parts[from].Level, f.Parts[to].Level)
}

// mostDepth is how deep a port of a kind may be; one of no kind can't be of any depth.
func mostDepth(kind int) int {
	switch kind {
	case api.Sampling:
		return 1
	case api.Queuing:
		return api.MaxDepth
	}
	return 0
}

func (f *form) rulesHold() bool {
	return len(f.Rules) <= api.MaxRules && all(f.Rules, func(r api.Rule) bool {
		return f.isLevel(r.From) && f.isLevel(r.To) && !f.lattice.Flows(r.From, r.To) && isPattern(r.Pattern) && actionHolds(r)
	})
}

func actionHolds(r api.Rule) bool {
	switch r.Action {
	case api.Drop, api.Pass:
		return r.With == ""
	case api.Redact:
		return isPattern(r.With)
	}
	return false
}

func isPattern(s string) bool {
	_, e := regex.Parse(s)
	return e == api.OK
}

func (f *form) secretsHold() bool {
	return len(f.Keys) == f.Levels && all(f.Keys, isKey) && isLogin(f.Login)
}

func isKey(s string) bool {
	return isWithin(len(s), 1, maxKey)
}

func isLogin(s string) bool {
	return isWithin(len(s), 1, api.MaxLogin) && all([]byte(s), func(b byte) bool {
		return leastByte <= b && b <= mostByte
	})
}

func (f *form) timesHold() bool {
	return isWithin(f.Recovery, 1, mostTime) && isWithin(f.Bound, f.need(), mostTime)
}
