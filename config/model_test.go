package config_test

import (
	"math/rand"
	"slices"
	"testing"

	"castellan/api"
	"castellan/config"
	"castellan/regex"
)

// The model is the chapter's words once more, held against the package on all single changes of some configs at the bounds, and on many changes together.

// modelOf tells of how many of the rules of the form it is that a config holds ahead of the first that it does not.
func modelOf(c api.Config) int {
	for i, holds := range []func(c api.Config) bool{modelLevels, modelParts, modelWindows, modelPorts, modelDisk, modelRules, modelSecrets, modelTimes} {
		if !holds(c) {
			return i
		}
	}
	return 8
}

// modelAbove are the levels to which a flows, as the bits of a number.
func modelAbove(c api.Config, a int) int {
	above := 1 << a
	for range c.Levels {
		for _, p := range c.Flows {
			if above>>p[0]&1 == 1 {
				above |= 1 << p[1]
			}
		}
	}
	return above
}

func modelFlows(c api.Config, a, b int) bool {
	return modelAbove(c, a)>>b&1 == 1
}

func modelLevels(c api.Config) bool {
	if c.Levels < 1 || c.Levels > 8 || len(c.Flows) > 64 {
		return false
	}
	for _, p := range c.Flows {
		if min(p[0], p[1]) < 0 || max(p[0], p[1]) >= c.Levels {
			return false
		}
	}
	var above [8]int
	for a := range c.Levels {
		above[a] = modelAbove(c, a)
	}
	up := func(a, b int) bool { return above[a]>>b&1 == 1 }
	down := func(a, b int) bool { return up(b, a) }
	for a := range c.Levels {
		for b := range a {
			if up(a, b) && up(b, a) || !hasLeast(c.Levels, up, a, b) || !hasLeast(c.Levels, down, a, b) {
				return false
			}
		}
	}
	return true
}

// hasLeast tells whether of the bounds of a and b one leads to all of them.
func hasLeast(levels int, leads func(a, b int) bool, a, b int) bool {
	var bounds []int
	for x := range levels {
		if leads(a, x) && leads(b, x) {
			bounds = append(bounds, x)
		}
	}
	return slices.ContainsFunc(bounds, func(x int) bool {
		return !slices.ContainsFunc(bounds, func(y int) bool { return !leads(x, y) })
	})
}

func modelParts(c api.Config) bool {
	for _, p := range c.Parts {
		if p.Pages < 1 || p.Pages > 16 || p.Level < 0 || p.Level >= c.Levels {
			return false
		}
	}
	return len(c.Parts) >= 1 && len(c.Parts) <= 8
}

func modelWindows(c api.Config) bool {
	if len(c.Windows) < 1 || len(c.Windows) > 64 {
		return false
	}
	indices := map[int]int{api.WinIdle: 1, api.WinPart: len(c.Parts), api.WinFiles: c.Levels, api.WinNet: c.Levels, api.WinGuard: 1}
	has := map[[2]int]int{}
	for _, w := range c.Windows {
		if w.Ticks < 1 || w.Ticks > 255 || w.Index < 0 || w.Index >= indices[w.Kind] {
			return false
		}
		has[[2]int{w.Kind, w.Index}]++
	}
	for i, p := range c.Parts {
		if has[[2]int{api.WinPart, i}]*has[[2]int{api.WinFiles, p.Level}]*has[[2]int{api.WinNet, p.Level}] == 0 {
			return false
		}
	}
	return len(c.Rules) == 0 || has[[2]int{api.WinGuard, 0}] > 0
}

func modelPorts(c api.Config) bool {
	for _, p := range c.Ports {
		switch {
		case p.Kind != api.Sampling && p.Kind != api.Queuing:
			return false
		case p.Kind == api.Sampling && p.Depth != 1:
			return false
		case p.From == p.To || min(p.From, p.To) < 0 || max(p.From, p.To) >= len(c.Parts):
			return false
		case !modelFlows(c, c.Parts[p.From].Level, c.Parts[p.To].Level):
			return false
		case p.Size < 1 || p.Size > 255 || p.Depth < 1 || p.Depth > 8:
			return false
		}
	}
	return len(c.Ports) <= 16
}

func modelDisk(c api.Config) bool {
	if c.Sectors < 1 || c.Sectors > 4096 || len(c.Volumes) > 8 || c.Audit.Level != 0 || c.Boot < 0 || c.Boot > c.Sectors-2 {
		return false
	}
	owners, levels := [4096]int{}, map[int]int{}
	owners[c.Boot]++
	owners[c.Boot+1]++
	for i, v := range append(slices.Clone(c.Volumes), c.Audit) {
		if v.First < 0 || v.First > 4096 || v.Count < 1 || v.Count > 4096 || v.First+v.Count > c.Sectors || v.Journal < 4 || v.Journal >= v.Count {
			return false
		}
		for s := v.First; s < v.First+v.Count; s++ {
			owners[s]++
		}
		if i == len(c.Volumes) {
			break
		}
		cells := v.Count - v.Journal
		if v.Level < 0 || v.Level >= c.Levels || levels[v.Level] > 0 || cells > 40 || cells > v.Journal-3 {
			return false
		}
		levels[v.Level]++
	}
	for _, n := range owners {
		if n > 1 {
			return false
		}
	}
	return true
}

func modelRules(c api.Config) bool {
	for _, r := range c.Rules {
		if min(r.From, r.To) < 0 || max(r.From, r.To) >= c.Levels || modelFlows(c, r.From, r.To) || r.Action < 0 || r.Action > 2 {
			return false
		}
		if _, e := regex.Parse(r.Pattern); e != api.OK {
			return false
		}
		if _, e := regex.Parse(r.With); e != api.OK || r.With != "" && r.Action != 2 {
			return false
		}
	}
	return len(c.Rules) <= 32
}

func modelSecrets(c api.Config) bool {
	for _, k := range c.Keys {
		if len(k) == 0 || len(k) > 64 {
			return false
		}
	}
	for i := range len(c.Login) {
		if c.Login[i] <= ' ' || c.Login[i] > '~' {
			return false
		}
	}
	return len(c.Keys) == c.Levels && len(c.Login) > 0 && len(c.Login) <= 16
}

func modelTimes(c api.Config) bool {
	return c.Recovery > 0 && c.Recovery <= 65535 && c.Bound >= modelNeed(c) && c.Bound <= 65535
}

// modelNeed is 2, and as many major frames as are enough for all: so many, that their ticks are as many as what waits.
func modelNeed(c api.Config) int {
	ticks, waiting := map[int]int{}, map[int]int{}
	for _, w := range c.Windows {
		if w.Kind == api.WinFiles {
			ticks[w.Index] += w.Ticks
		} else if w.Kind == api.WinGuard {
			ticks[-1] += w.Ticks
		}
	}
	for _, p := range c.Parts {
		waiting[p.Level]++
	}
	pairs := map[[2]int]int{}
	for _, r := range c.Rules {
		pairs[[2]int{r.From, r.To}] = 1
	}
	waiting[-1] = 4 * len(pairs)
	frames := 0
	for place, n := range waiting {
		for frames*ticks[place] < n {
			frames++
		}
	}
	return 2 + frames
}

// wantModel holds the package against the model, and tells whether the config is well-formed.
func wantModel(t *testing.T, what any, c api.Config) bool {
	t.Helper()
	e, need := api.ErrConfigForm, 0
	holding := modelOf(c)
	if holding == 8 {
		e = api.OK
	}
	if holding >= 7 {
		need = modelNeed(c)
	}
	wantCheck(t, what, c, e)
	wantNeed(t, what, c, need)
	return holding == 8
}

// bounds are numbers at the bounds of what the form asks of any.
func bounds() []int {
	l := []int{-1 << 63, -1 << 62, -1 << 32, -4096, -256, -2, -1, 1 << 16, 1<<16 + 1, 1 << 31, 1 << 32, 1 << 62, 1<<63 - 3, 1<<63 - 2, 1<<63 - 1}
	for _, n := range []int{4, 12, 24, 36, 38, 43, 62, 72, 83, 90, 100, 183, 254, 500, 598, 600, 4095, 65534} {
		l = append(l, n-1, n, n+1, n+2)
	}
	for n := range 20 {
		l = append(l, n)
	}
	slices.Sort(l)
	return slices.Compact(l)
}

func bases() []api.Config {
	return []api.Config{example(), rich(), full()}
}

// full has as many of all things as there may be.
func full() api.Config {
	c := api.Config{Levels: 8, Boot: 4094, Sectors: 4096, Audit: api.Volume{First: 3000, Count: 1094, Journal: 1093}, Login: "!~0123456789abcd", Recovery: 1, Bound: 65535}
	for i := range 8 {
		for j := range 8 {
			if i&j == i {
				c.Flows = append(c.Flows, [2]int{i, j})
			}
		}
		c.Parts = append(c.Parts, api.Part{Level: i, Pages: 2 * (i + 1)})
		for _, kind := range []int{api.WinPart, api.WinFiles, api.WinNet} {
			c.Windows = append(c.Windows, api.Window{Kind: kind, Index: i, Ticks: 10*i + 1})
		}
		c.Volumes = append(c.Volumes, api.Volume{Level: i, First: 100 * i, Count: 83, Journal: 43})
		c.Keys = append(c.Keys, string(rune('a'+i)))
	}
	for len(c.Flows) < 64 {
		c.Flows = append(c.Flows, [2]int{0, 7})
	}
	for len(c.Windows) < 64 {
		c.Windows = append(c.Windows, api.Window{Kind: api.WinGuard, Ticks: 255})
	}
	for i := range 16 {
		c.Ports = append(c.Ports, api.Port{Kind: api.Queuing, From: 0, To: 1 + i%7, Size: 255, Depth: 8})
	}
	for i := range 32 {
		c.Rules = append(c.Rules, api.Rule{From: 7, To: i % 7, Action: i % 3, Pattern: "a|b"})
	}
	return c
}

func TestBases(t *testing.T) {
	for i, c := range bases() {
		if !wantModel(t, i, c) {
			t.Errorf("the base %d is not well-formed, but for %d rules", i, modelOf(c))
		}
	}
}

func TestSingleNumbers(t *testing.T) {
	for _, base := range bases() {
		c := copied(base)
		for _, f := range append(numbersOf(&c), number{name: "Audit.Level", n: &c.Audit.Level}) {
			before := *f.n
			for _, n := range bounds() {
				*f.n = n
				wantModel(t, f.name, c)
			}
			*f.n = before
		}
	}
}

// A thing more, or one that is not there, at each place of each list.
func TestSingleThings(t *testing.T) {
	for i, base := range bases() {
		for n := range len(base.Windows) {
			wantModel(t, i, with(base, func(c *api.Config) { c.Windows = slices.Delete(slices.Clone(c.Windows), n, n+1) }))
			wantModel(t, i, with(base, func(c *api.Config) { c.Windows = slices.Concat(c.Windows, c.Windows[n:n+1]) }))
		}
		for n := range len(base.Parts) {
			wantModel(t, i, with(base, func(c *api.Config) { c.Parts = slices.Delete(slices.Clone(c.Parts), n, n+1) }))
			wantModel(t, i, with(base, func(c *api.Config) { c.Parts = slices.Concat(c.Parts, c.Parts[n:n+1]) }))
		}
		for n := range len(base.Flows) {
			wantModel(t, i, with(base, func(c *api.Config) { c.Flows = slices.Delete(slices.Clone(c.Flows), n, n+1) }))
			wantModel(t, i, with(base, func(c *api.Config) { c.Flows = slices.Concat(c.Flows, c.Flows[n:n+1]) }))
		}
		for n := range len(base.Ports) {
			wantModel(t, i, with(base, func(c *api.Config) { c.Ports = slices.Concat(c.Ports, c.Ports[n:n+1]) }))
		}
		for n := range len(base.Volumes) {
			wantModel(t, i, with(base, func(c *api.Config) { c.Volumes = slices.Delete(slices.Clone(c.Volumes), n, n+1) }))
			wantModel(t, i, with(base, func(c *api.Config) { c.Volumes = slices.Concat(c.Volumes, c.Volumes[n:n+1]) }))
		}
		for n := range len(base.Rules) {
			wantModel(t, i, with(base, func(c *api.Config) { c.Rules = slices.Delete(slices.Clone(c.Rules), n, n+1) }))
			wantModel(t, i, with(base, func(c *api.Config) { c.Rules = slices.Concat(c.Rules, c.Rules[n:n+1]) }))
		}
		for n := range len(base.Keys) {
			wantModel(t, i, with(base, func(c *api.Config) { c.Keys = slices.Delete(slices.Clone(c.Keys), n, n+1) }))
			wantModel(t, i, with(base, func(c *api.Config) { c.Keys = slices.Concat(c.Keys, c.Keys[n:n+1]) }))
		}
	}
}

// Several small changes together: many of these configs are well-formed.
func TestManyNumbers(t *testing.T) {
	rnd := rand.New(rand.NewSource(3))
	well, ill := 0, 0
	for range 40000 {
		c := copied(bases()[rnd.Intn(3)])
		fields := numbersOf(&c)
		for range 1 + rnd.Intn(3) {
			f := fields[rnd.Intn(len(fields))]
			*f.n += []int{-1, 1, -2, 2, 5, -40, 40}[rnd.Intn(7)]
		}
		if wantModel(t, "many changes", c) {
			well++
			s, e := config.Print(c)
			wantParse(t, "many changes", s, c, e)
		} else {
			ill++
		}
	}
	if well < 4000 || ill < 4000 {
		t.Errorf("%d are well-formed, %d are not", well, ill)
	}
}

// Configs by chance, of whose things each has a chance to be right.
func TestAnyForms(t *testing.T) {
	rnd := rand.New(rand.NewSource(4))
	held := map[int]int{}
	for range 40000 {
		c := anyForm(rnd)
		wantModel(t, "any", c)
		held[modelOf(c)]++
	}
	for n := range 9 {
		if held[n] < 50 {
			t.Errorf("only %d hold %d rules of the form", held[n], n)
		}
	}
}

func anyForm(rnd *rand.Rand) api.Config {
	c := api.Config{Levels: 1 + rnd.Intn(4), Sectors: 60 + rnd.Intn(40), Login: "x", Recovery: 1, Bound: 2 + rnd.Intn(8)}
	for a := range c.Levels {
		if a > 0 && rnd.Intn(8) > 0 {
			c.Flows = append(c.Flows, [2]int{a - 1, a})
		}
		if rnd.Intn(20) > 0 {
			c.Volumes = append(c.Volumes, api.Volume{Level: a, First: 14 * a, Count: 9 + rnd.Intn(5), Journal: 7 + rnd.Intn(2)})
		}
		c.Keys = append(c.Keys, string(make([]byte, 1+rnd.Intn(65))))
	}
	c.Audit = api.Volume{First: 14 * c.Levels, Count: 5 + rnd.Intn(3), Journal: 4 + rnd.Intn(2)}
	c.Boot = c.Sectors - 2 - rnd.Intn(20)
	for range 1 + rnd.Intn(5) {
		c.Parts = append(c.Parts, api.Part{Level: rnd.Intn(c.Levels), Pages: 1 + rnd.Intn(17)})
	}
	for range 40 {
		c.Windows = append(c.Windows, anyWindow(rnd, c))
	}
	for range rnd.Intn(2) {
		c.Ports = append(c.Ports, api.Port{Kind: rnd.Intn(2), From: rnd.Intn(len(c.Parts)), To: rnd.Intn(len(c.Parts)), Size: 1, Depth: 1 + rnd.Intn(2)})
	}
	for range rnd.Intn(4) {
		c.Rules = append(c.Rules, api.Rule{From: rnd.Intn(c.Levels), To: rnd.Intn(c.Levels), Action: rnd.Intn(3)})
	}
	return c
}

func anyWindow(rnd *rand.Rand, c api.Config) api.Window {
	w := api.Window{Kind: rnd.Intn(api.WinKinds), Ticks: 1}
	switch w.Kind {
	case api.WinPart:
		w.Index = rnd.Intn(len(c.Parts))
	case api.WinFiles, api.WinNet:
		w.Index = rnd.Intn(c.Levels)
	}
	return w
}
