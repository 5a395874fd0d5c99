package config_test

import (
	"math"
	"slices"
	"strings"
	"testing"

	"castellan/api"
	"castellan/config"
)

// P11.2: each of the rules 1 to 8, by hand.

// A change of a config that is well-formed, and whether it still is.
type change struct {
	name string
	well bool
	make func(c *api.Config)
}

// wantChanges holds that what is well-formed can be laid (P11.3), and that what is not has no Need, as none of these rules is the last.
func wantChanges(t *testing.T, base api.Config, l []change) {
	t.Helper()
	wantCheck(t, "the base", base, api.OK)
	for _, x := range l {
		c := copied(base)
		x.make(&c)
		if !x.well {
			wantCheck(t, x.name, c, api.ErrConfigForm)
			wantNeed(t, x.name, c, 0)
			continue
		}
		wantCheck(t, x.name, c, api.OK)
		if config.Need(c) < 3 {
			t.Errorf("%s: Need: %d", x.name, config.Need(c))
		}
		s, e := config.Print(c)
		wantParse(t, x.name, s, c, e)
	}
}

func TestNothingIsNotWellFormed(t *testing.T) {
	wantCheck(t, "nothing", api.Config{}, api.ErrConfigForm)
	wantNeed(t, "nothing", api.Config{}, 0)
}

func TestRule1(t *testing.T) {
	wantChanges(t, example(), []change{
		{"64 pairs", true, func(c *api.Config) { c.Flows = slices.Repeat([][2]int{{0, 1}}, 64) }},
		{"65 pairs", false, func(c *api.Config) { c.Flows = slices.Repeat([][2]int{{0, 1}}, 65) }},
		{"to itself, too", true, func(c *api.Config) { c.Flows = [][2]int{{1, 1}, {0, 1}, {0, 0}} }},
		{"the other way", true, func(c *api.Config) { c.Flows = [][2]int{{1, 0}} }},
		{"both ways", false, func(c *api.Config) { c.Flows = [][2]int{{0, 1}, {1, 0}} }},
		{"no join", false, func(c *api.Config) { c.Flows = nil }},
		{"no such level", false, func(c *api.Config) { c.Flows = [][2]int{{0, 1}, {0, 2}} }},
		{"below 0", false, func(c *api.Config) { c.Flows = [][2]int{{0, 1}, {-1, 1}} }},
		{"no levels", false, func(c *api.Config) { c.Levels = 0 }},
		{"one level, of two", false, func(c *api.Config) { c.Levels = 1 }},
		{"a third level, alone", false, func(c *api.Config) { c.Levels, c.Keys = 3, []string{"a", "b", "c"} }},
		{"a third level", true, func(c *api.Config) {
			c.Levels, c.Keys, c.Flows = 3, []string{"a", "b", "c"}, [][2]int{{0, 1}, {1, 2}}
		}},
		{"nine levels", false, func(c *api.Config) {
			c.Levels, c.Keys = 9, slices.Repeat([]string{"a"}, 9)
			for a := range 8 {
				c.Flows = append(c.Flows, [2]int{a, a + 1})
			}
		}},
	})
}

func TestRule2(t *testing.T) {
	wantChanges(t, example(), []change{
		{"no parts", false, func(c *api.Config) { c.Parts = nil }},
		{"no parts, and no windows of theirs", false, func(c *api.Config) { c.Parts, c.Windows = nil, c.Windows[2:] }},
		{"one part", true, func(c *api.Config) { c.Parts, c.Windows = c.Parts[:1], slices.Delete(c.Windows, 1, 2) }},
		{"16 pages", true, func(c *api.Config) { c.Parts[1].Pages = 16 }},
		{"17 pages", false, func(c *api.Config) { c.Parts[1].Pages = 17 }},
		{"no pages", false, func(c *api.Config) { c.Parts[1].Pages = 0 }},
		{"pages below 0", false, func(c *api.Config) { c.Parts[0].Pages = -1 }},
		{"no such level", false, func(c *api.Config) { c.Parts[1].Level = 2 }},
		{"a level below 0", false, func(c *api.Config) { c.Parts[1].Level = -1 }},
		{"the same level", true, func(c *api.Config) { c.Parts[1].Level, c.Bound = 0, 4 }},
		{"eight parts", true, func(c *api.Config) { addParts(c, 8) }},
		{"nine parts", false, func(c *api.Config) { addParts(c, 9) }},
	})
}

func addParts(c *api.Config, n int) {
	for len(c.Parts) < n {
		c.Windows = append(c.Windows, api.Window{Kind: api.WinPart, Index: len(c.Parts), Ticks: 1})
		c.Parts = append(c.Parts, api.Part{Level: 1, Pages: 1})
	}
	c.Bound = 100
}

func TestRule3(t *testing.T) {
	add := func(kind, index, ticks int) func(c *api.Config) {
		return func(c *api.Config) {
			c.Windows = append(c.Windows, api.Window{Kind: kind, Index: index, Ticks: ticks})
		}
	}
	l := []change{
		{"no windows", false, func(c *api.Config) { c.Windows = nil }},
		{"64 windows", true, func(c *api.Config) {
			c.Windows = append(c.Windows, slices.Repeat([]api.Window{{Kind: api.WinNet, Index: 1, Ticks: 255}}, 58)...)
		}},
		{"65 windows", false, func(c *api.Config) { c.Windows = append(c.Windows, slices.Repeat([]api.Window{{Ticks: 1}}, 59)...) }},
		{"255 ticks", true, add(api.WinIdle, 0, 255)},
		{"256 ticks", false, add(api.WinIdle, 0, 256)},
		{"no ticks", false, add(api.WinIdle, 0, 0)},
		{"ticks below 0", false, add(api.WinFiles, 0, -1)},
		{"idle", true, add(api.WinIdle, 0, 1)},
		{"idle 1", false, add(api.WinIdle, 1, 1)},
		{"idle -1", false, add(api.WinIdle, -1, 1)},
		{"a guard without rules", true, add(api.WinGuard, 0, 1)},
		{"guard 1", false, add(api.WinGuard, 1, 1)},
		{"guard -1", false, add(api.WinGuard, -1, 1)},
		{"part 1", true, add(api.WinPart, 1, 1)},
		{"part 2", false, add(api.WinPart, 2, 1)},
		{"part -1", false, add(api.WinPart, -1, 1)},
		{"files 1", true, add(api.WinFiles, 1, 1)},
		{"files 2", false, add(api.WinFiles, 2, 1)},
		{"files -1", false, add(api.WinFiles, -1, 1)},
		{"net 1", true, add(api.WinNet, 1, 1)},
		{"net 2", false, add(api.WinNet, 2, 1)},
		{"net -1", false, add(api.WinNet, -1, 1)},
		{"no kind", false, add(api.WinKinds, 0, 1)},
		{"no kind, below 0", false, add(-1, 0, 1)},
		{"no kind at all", false, add(math.MaxInt, 0, 1)},
		{"in another order", true, func(c *api.Config) { slices.Reverse(c.Windows) }},
		{"rules without a guard", false, func(c *api.Config) { c.Rules, c.Bound = []api.Rule{{From: 1, To: 0}}, 100 }},
		{"rules with a guard", true, func(c *api.Config) {
			c.Rules, c.Bound = []api.Rule{{From: 1, To: 0}}, 6
			add(api.WinGuard, 0, 1)(c)
		}},
	}
	for i := range 6 {
		l = append(l, change{"a window less", false, func(c *api.Config) { c.Windows = slices.Delete(c.Windows, i, i+1) }})
		l = append(l, change{"a window twice", true, func(c *api.Config) { c.Windows = append(c.Windows, c.Windows[i]) }})
		l = append(l, change{"an idle window instead", false, func(c *api.Config) { c.Windows[i] = api.Window{Kind: api.WinIdle, Ticks: 1} }})
	}
	wantChanges(t, example(), l)
}

// A level that no partition has needs no windows, and a partition's own kind of window is not another's.
func TestRule3OfLevelsWithoutParts(t *testing.T) {
	c := example()
	c.Parts[0].Level, c.Bound = 1, 4
	wantChanges(t, c, []change{
		{"no files 0", true, func(c *api.Config) { c.Windows = slices.Delete(c.Windows, 2, 3) }},
		{"no net 0", true, func(c *api.Config) { c.Windows = slices.Delete(c.Windows, 4, 5) }},
		{"no files 1", false, func(c *api.Config) { c.Windows = slices.Delete(c.Windows, 3, 4) }},
		{"no net 1", false, func(c *api.Config) { c.Windows = slices.Delete(c.Windows, 5, 6) }},
		{"no part 0", false, func(c *api.Config) { c.Windows = slices.Delete(c.Windows, 0, 1) }},
	})
}

func TestRule4(t *testing.T) {
	ports := func(l ...api.Port) func(c *api.Config) {
		return func(c *api.Config) { c.Ports = l }
	}
	sampling, queuing := api.Port{Kind: api.Sampling, From: 0, To: 3, Size: 1, Depth: 1}, api.Port{Kind: api.Queuing, From: 0, To: 3, Size: 1, Depth: 1}
	port := func(base api.Port, change func(p *api.Port)) func(c *api.Config) {
		change(&base)
		return ports(base)
	}
	wantChanges(t, rich(), []change{
		{"none", true, ports()},
		{"16", true, ports(slices.Repeat([]api.Port{sampling}, 16)...)},
		{"17", false, ports(slices.Repeat([]api.Port{sampling}, 17)...)},
		{"no kind", false, port(queuing, func(p *api.Port) { p.Kind = 2 })},
		{"no kind, below 0", false, port(queuing, func(p *api.Port) { p.Kind = -1 })},
		{"size 0", false, port(queuing, func(p *api.Port) { p.Size = 0 })},
		{"size 255", true, port(queuing, func(p *api.Port) { p.Size = 255 })},
		{"size 256", false, port(queuing, func(p *api.Port) { p.Size = 256 })},
		{"size below 0", false, port(sampling, func(p *api.Port) { p.Size = -1 })},
		{"depth 0", false, port(queuing, func(p *api.Port) { p.Depth = 0 })},
		{"depth 8", true, port(queuing, func(p *api.Port) { p.Depth = 8 })},
		{"depth 9", false, port(queuing, func(p *api.Port) { p.Depth = 9 })},
		{"depth below 0", false, port(queuing, func(p *api.Port) { p.Depth = -1 })},
		{"sampling, depth 0", false, port(sampling, func(p *api.Port) { p.Depth = 0 })},
		{"sampling, depth 2", false, port(sampling, func(p *api.Port) { p.Depth = 2 })},
		{"sampling, depth -1", false, port(sampling, func(p *api.Port) { p.Depth = -1 })},
		{"to itself", false, port(queuing, func(p *api.Port) { p.To = 0 })},
		{"from no partition", false, port(queuing, func(p *api.Port) { p.From = 4 })},
		{"from below 0", false, port(queuing, func(p *api.Port) { p.From = -1 })},
		{"to no partition", false, port(queuing, func(p *api.Port) { p.To = 4 })},
		{"to below 0", false, port(queuing, func(p *api.Port) { p.To = -1 })},
		{"up by two steps", true, port(queuing, func(p *api.Port) { p.From, p.To = 0, 3 })},
		{"down by two steps", false, port(queuing, func(p *api.Port) { p.From, p.To = 3, 0 })},
		{"up", true, port(queuing, func(p *api.Port) { p.From, p.To = 2, 3 })},
		{"down", false, port(sampling, func(p *api.Port) { p.From, p.To = 3, 2 })},
		{"within a level", true, port(sampling, func(p *api.Port) { p.From, p.To = 1, 2 })},
		{"within a level, the other way", true, port(sampling, func(p *api.Port) { p.From, p.To = 2, 1 })},
		{"the last one of many", false, ports(queuing, queuing, api.Port{Kind: api.Queuing, From: 1, To: 0, Size: 1, Depth: 1})},
		{"side by side", false, func(c *api.Config) {
			c.Parts[2].Level = 2
			c.Windows = append(c.Windows, api.Window{Kind: api.WinNet, Index: 2, Ticks: 1})
			ports(api.Port{Kind: api.Queuing, From: 1, To: 2, Size: 1, Depth: 1})(c)
		}},
	})
}

func TestRule5(t *testing.T) {
	volume := func(first, count, journal int) func(c *api.Config) {
		return func(c *api.Config) {
			c.Sectors, c.Boot = 4096, 4094
			c.Volumes[0] = api.Volume{Level: 0, First: first, Count: count, Journal: journal}
		}
	}
	audit := func(first, count, journal int) func(c *api.Config) {
		return func(c *api.Config) {
			c.Sectors, c.Boot = 4096, 4094
			c.Audit = api.Volume{First: first, Count: count, Journal: journal}
		}
	}
	boot := func(n int) func(c *api.Config) {
		return func(c *api.Config) { c.Sectors, c.Boot = 50, n }
	}
	wantChanges(t, example(), []change{
		{"a greater disk", true, func(c *api.Config) { c.Sectors = 4096 }},
		{"too great a disk", false, func(c *api.Config) { c.Sectors = 4097 }},
		{"too small a disk", false, func(c *api.Config) { c.Sectors = 37 }},
		{"no disk", false, func(c *api.Config) { c.Sectors = 0 }},
		{"a disk below 0", false, func(c *api.Config) { c.Sectors = -1 }},
		{"no volumes", true, func(c *api.Config) { c.Volumes = nil }},
		{"no volume of level 0", true, func(c *api.Config) { c.Volumes = c.Volumes[1:] }},
		{"two of a level", false, func(c *api.Config) { c.Volumes[0].Level = 1 }},
		{"the other levels", true, func(c *api.Config) { c.Volumes[0].Level, c.Volumes[1].Level = 1, 0 }},
		{"no such level", false, func(c *api.Config) { c.Volumes[1].Level = 2 }},
		{"a level below 0", false, func(c *api.Config) { c.Volumes[1].Level = -1 }},
		{"the least volume", true, volume(100, 5, 4)},
		{"the least journal, and two cells", false, volume(100, 6, 4)},
		{"a journal of 3", false, volume(100, 5, 3)},
		{"a journal of 3, and no cell", false, volume(100, 3, 3)},
		{"no cell", false, volume(100, 4, 4)},
		{"a journal of more", false, volume(100, 4, 5)},
		{"40 cells", true, volume(100, 83, 43)},
		{"40 cells, and a journal for 39", false, volume(100, 82, 42)},
		{"39 cells, and a journal for them", true, volume(100, 81, 42)},
		{"40 cells, and a great journal", true, volume(100, 1040, 1000)},
		{"41 cells, and a great journal", false, volume(100, 1041, 1000)},
		{"none at all", false, volume(100, 0, 0)},
		{"count below 0", false, volume(100, -5, 4)},
		{"count and journal below 0", false, volume(100, -5, -9)},
		{"first below 0", false, volume(-1, 12, 8)},
		{"one that ends where another begins", true, volume(0, 12, 8)},
		{"one that ends behind that", false, volume(1, 12, 8)},
		{"one that begins where another ends", true, volume(36, 12, 8)},
		{"one that begins ahead of that", false, volume(35, 12, 8)},
		{"one within another", false, volume(16, 5, 4)},
		{"one around all others", false, volume(0, 40, 39)},
		{"up to the boot's sectors", true, volume(4082, 12, 8)},
		{"on one of them", false, volume(4083, 12, 8)},
		{"on both of them", false, volume(4084, 12, 8)},
		{"behind the disk", false, volume(4085, 12, 8)},
		{"far behind it", false, volume(1<<40, 12, 8)},
		{"first and count above an int", false, volume(math.MaxInt-3, 12, 8)},
		{"count above all", false, volume(100, math.MaxInt, math.MaxInt-3)},
		{"first and count together 0 modulo 2^64", false, volume(math.MaxInt, math.MaxInt, 50)},
		{"the least audit", true, audit(100, 5, 4)},
		{"an audit without cells", false, audit(100, 4, 4)},
		{"an audit with a journal of 3", false, audit(100, 5, 3)},
		{"an audit with many cells", true, audit(100, 1000, 4)},
		{"an audit with one cell", true, audit(100, 1000, 999)},
		{"an audit all but journal", false, audit(100, 1000, 1000)},
		{"an audit on a volume", false, audit(23, 12, 8)},
		{"an audit that ends on a volume", false, audit(0, 1, 4)},
		{"an audit of none", false, audit(100, 0, 0)},
		{"an audit below 0", false, audit(-1, 12, 8)},
		{"an audit behind the disk", false, audit(4085, 12, 8)},
		{"an audit on the boot's second sector", false, func(c *api.Config) { c.Sectors, c.Boot = 50, 23 }},
		{"an audit of a level", false, func(c *api.Config) { c.Audit.Level = 1 }},
		{"an audit of a level below 0", false, func(c *api.Config) { c.Audit.Level = -1 }},
		{"boot behind all", true, boot(48)},
		{"boot's second sector behind the disk", false, boot(49)},
		{"boot behind the disk", false, boot(50)},
		{"boot below 0", false, boot(-1)},
		{"boot far below 0", false, boot(math.MinInt)},
		{"boot far behind", false, boot(math.MaxInt)},
		{"boot on the audit's last sector", false, boot(35)},
		{"boot right behind it", true, boot(36)},
		{"boot on a volume", false, boot(0)},
		{"boot ahead of all", true, func(c *api.Config) { c.Boot, c.Volumes = 0, c.Volumes[1:] }},
	})
}

func TestRule5OfManyVolumes(t *testing.T) {
	wantChanges(t, full(), []change{
		{"up to the last sector", true, func(c *api.Config) { c.Boot, c.Audit = 2998, api.Volume{First: 3000, Count: 1096, Journal: 4} }},
		{"nine volumes", false, func(c *api.Config) {
			c.Volumes = append(c.Volumes, api.Volume{Level: 0, First: 1000, Count: 12, Journal: 8})
		}},
		{"nine volumes, one of no level", false, func(c *api.Config) {
			c.Volumes = append(c.Volumes, api.Volume{Level: 8, First: 1000, Count: 12, Journal: 8})
		}},
		{"the first and the last of a level", false, func(c *api.Config) { c.Volumes[7].Level = 0 }},
		{"the first on the last", false, func(c *api.Config) { c.Volumes[0].First = 782 }},
		{"the first right behind the last", true, func(c *api.Config) { c.Volumes[0].First = 783 }},
	})
}

func TestRule6(t *testing.T) {
	rules := func(l ...api.Rule) func(c *api.Config) {
		return func(c *api.Config) { c.Rules = l }
	}
	rule := func(from, to, action int, pattern, with string) func(c *api.Config) {
		return rules(api.Rule{From: from, To: to, Action: action, Pattern: pattern, With: with})
	}
	l := []change{
		{"none", true, rules()},
		{"32", true, rules(slices.Repeat([]api.Rule{{From: 1, To: 0}}, 32)...)},
		{"33", false, rules(slices.Repeat([]api.Rule{{From: 1, To: 0}}, 33)...)},
		{"down", true, rule(3, 1, api.Pass, "a", "")},
		{"down by two steps", true, rule(3, 0, api.Pass, "a", "")},
		{"side by side", true, rule(2, 1, api.Pass, "a", "")},
		{"up", false, rule(1, 3, api.Pass, "a", "")},
		{"up by two steps", false, rule(0, 3, api.Pass, "a", "")},
		{"to itself", false, rule(2, 2, api.Pass, "a", "")},
		{"from no level", false, rule(4, 0, api.Pass, "a", "")},
		{"from below 0", false, rule(-1, 0, api.Pass, "a", "")},
		{"to no level", false, rule(3, 4, api.Pass, "a", "")},
		{"to below 0", false, rule(3, -1, api.Pass, "a", "")},
		{"no action", false, rule(1, 0, 3, "a", "")},
		{"no action, below 0", false, rule(1, 0, -1, "a", "")},
		{"no action, with a pattern", false, rule(1, 0, 3, "a", "a")},
		{"redact nothing", true, rule(1, 0, api.Redact, "a", "")},
		{"redact all", true, rule(1, 0, api.Redact, "", ".")},
		{"drop with", false, rule(1, 0, api.Drop, "a", "a")},
		{"pass with", false, rule(1, 0, api.Pass, "a", "a")},
		{"drop, with no pattern", false, rule(1, 0, api.Drop, "a", "(")},
		{"the last one of many", false, rules(api.Rule{From: 1}, api.Rule{From: 1}, api.Rule{From: 1, Pattern: "("})},
		{"the first one of many", false, rules(api.Rule{From: 1, Pattern: "("}, api.Rule{From: 1}, api.Rule{From: 1})},
	}
	for _, x := range []struct {
		pattern string
		is      bool
	}{
		{"", true}, {"a|b", true}, {strings.Repeat("a", 128), true}, {strings.Repeat("a", 129), false}, {"(", false}, {"a**", false},
		{"[b-a]", false}, {`[^\x00-\xff]`, false}, {"(a{15}){15}", true}, {"((a{15}){15}){15}", false}, {"\x00\xff", true}, {"a{16}", false},
	} {
		l = append(l, change{"drop " + x.pattern, x.is, rule(1, 0, api.Drop, x.pattern, "")})
		l = append(l, change{"pass " + x.pattern, x.is, rule(1, 0, api.Pass, x.pattern, "")})
		l = append(l, change{"redact " + x.pattern, x.is, rule(1, 0, api.Redact, x.pattern, "a")})
		l = append(l, change{"redact with " + x.pattern, x.is, rule(1, 0, api.Redact, "a", x.pattern)})
	}
	wantChanges(t, rich(), l)
}

func TestRule7(t *testing.T) {
	keys := func(l ...string) func(c *api.Config) {
		return func(c *api.Config) { c.Keys = l }
	}
	login := func(s string) func(c *api.Config) {
		return func(c *api.Config) { c.Login = s }
	}
	wantChanges(t, example(), []change{
		{"no keys", false, keys()},
		{"one key", false, keys("a")},
		{"three keys", false, keys("a", "b", "c")},
		{"the same key", true, keys("a", "a")},
		{"64 bytes", true, keys(strings.Repeat("\x00", 64), "b")},
		{"65 bytes", false, keys(strings.Repeat("a", 65), "b")},
		{"65 bytes, the second", false, keys("a", strings.Repeat("b", 65))},
		{"no bytes", false, keys("", "b")},
		{"no bytes, the second", false, keys("a", "")},
		{"all that bytes may be", true, keys("\xff", "\n \x00")},
		{"no login", false, login("")},
		{"a byte", true, login("a")},
		{"16 bytes", true, login(strings.Repeat("~", 16))},
		{"17 bytes", false, login(strings.Repeat("a", 17))},
		{"the least byte", true, login("!")},
		{"a blank", false, login(" ")},
		{"a blank at the end", false, login("pw ")},
		{"a blank at the beginning", false, login(" pw")},
		{"a blank between", false, login("p w")},
		{"byte 127", false, login("pw\x7f")},
		{"byte 128", false, login("\x80pw")},
		{"byte 255", false, login("p\xff")},
		{"byte 0", false, login("pw\x00")},
		{"byte 13", false, login("pw\r")},
	})
	for b := range 256 {
		c, e := example(), api.OK
		c.Login = "a" + string([]byte{byte(b)})
		if b < 33 || b > 126 {
			e = api.ErrConfigForm
		}
		wantCheck(t, b, c, e)
	}
}

// What the last rule refuses has its Need all the same.
func TestRule8(t *testing.T) {
	for _, x := range []struct {
		recovery, bound int
		well            bool
	}{
		{1, 3, true}, {65535, 3, true}, {3, 65535, true}, {65535, 65535, true}, {3, 4, true},
		{0, 3, false}, {-1, 3, false}, {65536, 3, false}, {math.MaxInt, 3, false}, {math.MinInt, 3, false},
		{3, 2, false}, {3, 1, false}, {3, 0, false}, {3, -1, false}, {3, 65536, false}, {3, math.MaxInt, false}, {3, math.MinInt, false},
	} {
		c := example()
		c.Recovery, c.Bound = x.recovery, x.bound
		e := api.ErrConfigForm
		if x.well {
			e = api.OK
		}
		wantCheck(t, x, c, e)
		wantNeed(t, x, c, 3)
	}
}

// Of all the rules' numbers, the bounds hold for the greatest config, too.
func TestFull(t *testing.T) {
	wantChanges(t, full(), []change{
		{"all", true, func(c *api.Config) {}},
		{"nine parts", false, func(c *api.Config) { c.Parts = append(c.Parts, api.Part{Pages: 1}) }},
		{"65 windows", false, func(c *api.Config) { c.Windows = append(c.Windows, api.Window{Ticks: 1}) }},
		{"17 ports", false, func(c *api.Config) { c.Ports = append(c.Ports, c.Ports[0]) }},
		{"33 rules", false, func(c *api.Config) { c.Rules = append(c.Rules, c.Rules[0]) }},
		{"nine keys", false, func(c *api.Config) { c.Keys = append(c.Keys, "a") }},
		{"seven keys", false, func(c *api.Config) { c.Keys = c.Keys[:7] }},
	})
}
