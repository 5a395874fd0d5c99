package config_test

import (
	"encoding/hex"
	"reflect"
	"slices"
	"strings"
	"testing"

	"castellan/api"
	"castellan/config"
)

// example is the config of the chapter's examples.
func example() api.Config {
	return api.Config{
		Levels: 2,
		Flows:  [][2]int{{0, 1}},
		Parts:  []api.Part{{Level: 0, Pages: 1}, {Level: 1, Pages: 1}},
		Windows: []api.Window{
			{Kind: api.WinPart, Index: 0, Ticks: 4}, {Kind: api.WinPart, Index: 1, Ticks: 4},
			{Kind: api.WinFiles, Index: 0, Ticks: 1}, {Kind: api.WinFiles, Index: 1, Ticks: 1},
			{Kind: api.WinNet, Index: 0, Ticks: 1}, {Kind: api.WinNet, Index: 1, Ticks: 1},
		},
		Volumes:  []api.Volume{{Level: 0, First: 0, Count: 12, Journal: 8}, {Level: 1, First: 12, Count: 12, Journal: 8}},
		Audit:    api.Volume{First: 24, Count: 12, Journal: 8},
		Boot:     36,
		Sectors:  38,
		Keys:     []string{"a", "b"},
		Login:    "pw",
		Recovery: 3,
		Bound:    3,
	}
}

// rich is a config that has something of all that there is: levels 0 below 1 and 2, which are side by side, and these below 3.
func rich() api.Config {
	return api.Config{
		Levels: 4,
		Flows:  [][2]int{{0, 1}, {0, 2}, {1, 3}, {2, 3}},
		Parts:  []api.Part{{Level: 0, Pages: 2}, {Level: 1, Pages: 16}, {Level: 1, Pages: 1}, {Level: 3, Pages: 3}},
		Windows: []api.Window{
			{Kind: api.WinIdle, Index: 0, Ticks: 255}, {Kind: api.WinPart, Index: 3, Ticks: 7},
			{Kind: api.WinFiles, Index: 1, Ticks: 1}, {Kind: api.WinFiles, Index: 0, Ticks: 2},
			{Kind: api.WinGuard, Index: 0, Ticks: 4}, {Kind: api.WinPart, Index: 0, Ticks: 3},
			{Kind: api.WinPart, Index: 1, Ticks: 1}, {Kind: api.WinNet, Index: 0, Ticks: 1},
			{Kind: api.WinNet, Index: 1, Ticks: 1}, {Kind: api.WinNet, Index: 3, Ticks: 1},
			{Kind: api.WinFiles, Index: 3, Ticks: 9}, {Kind: api.WinPart, Index: 2, Ticks: 5},
			{Kind: api.WinFiles, Index: 2, Ticks: 1}, {Kind: api.WinGuard, Index: 0, Ticks: 1},
		},
		Ports: []api.Port{
			{Kind: api.Sampling, From: 0, To: 3, Size: 255, Depth: 1}, {Kind: api.Queuing, From: 1, To: 2, Size: 1, Depth: 8},
			{Kind: api.Queuing, From: 2, To: 1, Size: 17, Depth: 1}, {Kind: api.Queuing, From: 0, To: 1, Size: 99, Depth: 5},
		},
		Volumes: []api.Volume{{Level: 3, First: 100, Count: 83, Journal: 43}, {Level: 0, First: 7, Count: 5, Journal: 4}, {Level: 2, First: 500, Count: 100, Journal: 90}},
		Audit:   api.Volume{First: 12, Count: 60, Journal: 4},
		Boot:    5,
		Sectors: 600,
		Rules: []api.Rule{
			{From: 1, To: 0, Action: api.Pass, Pattern: "[a-z]+"}, {From: 3, To: 2, Action: api.Redact, Pattern: "id=[0-9]+", With: "[0-9]"},
			{From: 1, To: 2, Action: api.Drop}, {From: 1, To: 0, Action: api.Redact, Pattern: ".*"},
		},
		Keys:     []string{"k", strings.Repeat("\x00\xff", 32), "ab", "ab"},
		Login:    "!aZ~",
		Recovery: 65535,
		Bound:    5,
	}
}

// with is a config with something changed.
func with(c api.Config, change func(c *api.Config)) api.Config {
	change(&c)
	return c
}

func wantCheck(t *testing.T, what any, c api.Config, e api.Errno) {
	t.Helper()
	if got := config.Check(c); got != e {
		t.Errorf("%v: Check: %d, not %d", what, got, e)
	}
}

func wantNeed(t *testing.T, what any, c api.Config, n int) {
	t.Helper()
	if got := config.Need(c); got != n {
		t.Errorf("%v: Need: %d, not %d", what, got, n)
	}
}

func wantPrint(t *testing.T, what any, c api.Config, s string, e api.Errno) {
	t.Helper()
	if got, ge := config.Print(c); got != s || ge != e {
		t.Errorf("%v: Print: %x, %d, not %x, %d", what, got, ge, s, e)
	}
}

func wantParse(t *testing.T, what any, s string, c api.Config, e api.Errno) {
	t.Helper()
	if got, ge := config.Parse(s); !same(got, c) || ge != e {
		t.Errorf("%v: Parse: %v, %d, not %v, %d", what, got, ge, c, e)
	}
}

// same tells whether two configs are the same: a nil list and an empty one are.
func same(c, d api.Config) bool {
	return reflect.DeepEqual(plain(c), plain(d))
}

func plain(c api.Config) api.Config {
	c = copied(c)
	v := reflect.ValueOf(&c).Elem()
	for i := range v.NumField() {
		if f := v.Field(i); f.Kind() == reflect.Slice && f.Len() == 0 {
			f.SetZero()
		}
	}
	return c
}

// copied shares no list with c.
func copied(c api.Config) api.Config {
	c.Flows, c.Parts, c.Windows = slices.Clone(c.Flows), slices.Clone(c.Parts), slices.Clone(c.Windows)
	c.Ports, c.Volumes = slices.Clone(c.Ports), slices.Clone(c.Volumes)
	c.Rules, c.Keys = slices.Clone(c.Rules), slices.Clone(c.Keys)
	return c
}

// bytesOf are the bytes that digits of base sixteen tell; blanks and line feeds count nothing.
func bytesOf(t *testing.T, digits string) string {
	t.Helper()
	b, err := hex.DecodeString(strings.Join(strings.Fields(digits), ""))
	if err != nil {
		t.Fatal(err)
	}
	return string(b)
}

// The chapter's examples.

func TestExamples(t *testing.T) {
	c := example()
	wantCheck(t, "c", c, api.OK)
	wantNeed(t, "c", c, 3)
	s, e := config.Print(c)
	if e != api.OK || s[:12] != bytesOf(t, "43535431 02 01 00 01 02 00 01 01") {
		t.Errorf("Print: %x, %d", s, e)
	}
	wantParse(t, "nothing", "", api.Config{}, api.ErrConfigText)
	wantParse(t, "a byte more", s+"\x00", api.Config{}, api.ErrConfigText)
	wantParse(t, "c", s, c, api.OK)
}

func TestExamplesThatAreNotWellFormed(t *testing.T) {
	for what, change := range map[string]func(c *api.Config){
		"without the last window": func(c *api.Config) { c.Windows = c.Windows[:5] },
		"with Bound 2":            func(c *api.Config) { c.Bound = 2 },
		"with Boot 35":            func(c *api.Config) { c.Boot = 35 },
		"with a rule 0 to 1": func(c *api.Config) {
			c.Rules = []api.Rule{{From: 0, To: 1, Action: api.Pass}}
			c.Windows = append(c.Windows, api.Window{Kind: api.WinGuard, Ticks: 4})
		},
		"with a port from part 1 to part 0": func(c *api.Config) {
			c.Ports = []api.Port{{Kind: api.Sampling, From: 1, To: 0, Size: 1, Depth: 1}}
		},
	} {
		wantCheck(t, what, with(example(), change), api.ErrConfigForm)
	}
	wantNeed(t, "with Bound 2", with(example(), func(c *api.Config) { c.Bound = 2 }), 3)
	wantNeed(t, "with Boot 35", with(example(), func(c *api.Config) { c.Boot = 35 }), 0)
}

// R4: what is handed in stays as it is, and the room behind it; what is answered shares nothing.

func TestListsStayTheCallers(t *testing.T) {
	c := rich()
	// Behind each list there is room with something in it.
	c.Volumes = append(c.Volumes, api.Volume{Level: 7, First: 7, Count: 7, Journal: 7})[:3]
	c.Rules = append(c.Rules, api.Rule{From: 7, Pattern: "("})[:4]
	c.Parts = append(c.Parts, api.Part{Level: 7})[:4]
	before, room := copied(c), []any{c.Volumes[:4][3], c.Rules[:5][4], c.Parts[:5][4]}
	for range 2 {
		config.Print(c)
		config.Check(c)
		config.Need(c)
	}
	if !reflect.DeepEqual(c, before) {
		t.Errorf("the config was changed: %v", c)
	}
	if now := []any{c.Volumes[:4][3], c.Rules[:5][4], c.Parts[:5][4]}; !reflect.DeepEqual(now, room) {
		t.Errorf("the room behind was changed: %v", now)
	}
}

func TestAnswersShareNothing(t *testing.T) {
	s, _ := config.Print(rich())
	c, _ := config.Parse(s)
	d, _ := config.Parse(s)
	c.Flows = append(c.Flows, [2]int{9, 9})
	c.Parts = append(c.Parts, api.Part{Level: 9, Pages: 9})
	c.Windows = append(c.Windows, api.Window{Kind: 9, Index: 9, Ticks: 9})
	c.Volumes = append(c.Volumes, api.Volume{Level: 9})
	c.Keys = append(c.Keys, "9")
	c.Ports, c.Rules = c.Ports[:cap(c.Ports)], c.Rules[:cap(c.Rules)]
	for i := range c.Ports {
		c.Ports[i] = api.Port{Kind: 9}
	}
	c.Flows[0], c.Parts[0], c.Windows[0], c.Volumes[0], c.Keys[0] = [2]int{9, 9}, api.Part{}, api.Window{}, api.Volume{}, "9"
	if !same(d, rich()) {
		t.Errorf("another answer was changed: %v", d)
	}
	if again, _ := config.Parse(s); !same(again, rich()) {
		t.Errorf("a later answer was changed: %v", again)
	}
}
