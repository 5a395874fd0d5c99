package config_test

import (
	"math"
	"math/rand"
	"reflect"
	"slices"
	"strings"
	"testing"

	"castellan/api"
	"castellan/config"
)

// P11.1

const exampleBytes = `43535431
	02
	01 0001
	02 0001 0101
	06 010004 010104 020001 020101 030001 030101
	00
	02 00 0000 000c 0008 01 000c 000c 0008
	0018 000c 0008
	0024 0026
	00
	02 0001 61 0001 62
	0002 7077
	0003 0003`

func TestBytesOfTheExample(t *testing.T) {
	s := bytesOf(t, exampleBytes)
	wantPrint(t, "the example", example(), s, api.OK)
	wantParse(t, "the example", s, example(), api.OK)
}

// A config in which no two numbers are the same, and which is far from well-formed.
func TestBytesOfAllFields(t *testing.T) {
	c := api.Config{
		Levels:   1,
		Flows:    [][2]int{{2, 3}, {4, 5}, {6, 7}},
		Parts:    []api.Part{{Level: 8, Pages: 9}},
		Windows:  []api.Window{{Kind: 10, Index: 11, Ticks: 12}, {Kind: 13, Index: 14, Ticks: 15}},
		Ports:    []api.Port{{Kind: 16, From: 17, To: 18, Size: 19, Depth: 20}},
		Volumes:  []api.Volume{{Level: 21, First: 0x1617, Count: 0x1819, Journal: 0x1a1b}},
		Audit:    api.Volume{First: 0x1c1d, Count: 0x1e1f, Journal: 0x2021},
		Boot:     0x2223,
		Sectors:  0x2425,
		Rules:    []api.Rule{{From: 0x26, To: 0x27, Action: 0x28, Pattern: "((", With: ""}, {From: 0x29, To: 0x2a, Action: 0xff, Pattern: "", With: "\x00w"}},
		Keys:     []string{"", "\xff", "key"},
		Login:    "\x00",
		Recovery: 0x2b2c,
		Bound:    0xffff,
	}
	s := bytesOf(t, `43535431
		01
		03 0203 0405 0607
		01 0809
		02 0a0b0c 0d0e0f
		01 1011121314
		01 15 1617 1819 1a1b
		1c1d 1e1f 2021
		2223 2425
		02 262728 0002 2828 0000 292aff 0000 0002 0077
		03 0000 0001 ff 0003 6b6579
		0001 00
		2b2c ffff`)
	wantPrint(t, "all fields", c, s, api.OK)
	wantParse(t, "all fields", s, c, api.OK)
}

func TestBytesOfNothing(t *testing.T) {
	s := "CST1" + strings.Repeat("\x00", 24)
	wantPrint(t, "nothing", api.Config{}, s, api.OK)
	wantParse(t, "nothing", s, api.Config{}, api.OK)
	empty := api.Config{Flows: [][2]int{}, Parts: []api.Part{}, Windows: []api.Window{}, Ports: []api.Port{}, Volumes: []api.Volume{}, Rules: []api.Rule{}, Keys: []string{}}
	wantPrint(t, "empty lists", empty, s, api.OK)
}

// number is one of a config's, and whether it has two bytes.
type number struct {
	name string
	n    *int
	wide bool
}

// numbersOf are all numbers of a config, but Audit's Level.
func numbersOf(c *api.Config) []number {
	var l []number
	var walk func(name string, wide bool, v reflect.Value)
	walk = func(name string, wide bool, v reflect.Value) {
		switch v.Kind() {
		case reflect.Int:
			if name != ".Audit.Level" {
				l = append(l, number{name, v.Addr().Interface().(*int), wide})
			}
		case reflect.Slice, reflect.Array:
			for i := range v.Len() {
				walk(name, wide, v.Index(i))
			}
		case reflect.Struct:
			for i := range v.NumField() {
				f := v.Type().Field(i).Name
				walk(name+"."+f, slices.Contains([]string{"First", "Count", "Journal", "Boot", "Sectors", "Recovery", "Bound"}, f), v.Field(i))
			}
		}
	}
	walk("", false, reflect.ValueOf(c).Elem())
	return l
}

func TestPrintOfNumbersAtTheirBounds(t *testing.T) {
	for i := range numbersOf(ptr(rich())) {
		for _, x := range []struct {
			n            int
			narrow, wide bool
		}{
			{0, true, true}, {1, true, true}, {254, true, true}, {255, true, true},
			{256, false, true}, {257, false, true}, {65534, false, true}, {65535, false, true},
			{65536, false, false}, {65537, false, false}, {1 << 32, false, false}, {1 << 56, false, false}, {math.MaxInt, false, false},
			{-1, false, false}, {-255, false, false}, {-256, false, false}, {-65536, false, false}, {math.MinInt, false, false},
		} {
			c := copied(rich())
			f := numbersOf(&c)[i]
			*f.n = x.n
			s, e := config.Print(c)
			if may := x.narrow || f.wide && x.wide; !may {
				wantPrint(t, f.name, c, "", api.ErrConfigForm)
			} else if e != api.OK {
				t.Errorf("%s of %d: Print: %d", f.name, x.n, e)
			} else {
				wantParse(t, f.name, s, c, api.OK)
			}
		}
	}
}

func ptr(c api.Config) *api.Config {
	c = copied(c)
	return &c
}

// The bytes have no place for Audit's Level.
func TestPrintOfAuditsLevel(t *testing.T) {
	for _, n := range []int{1, 2, 255, 256, -1, math.MaxInt, math.MinInt} {
		wantPrint(t, n, with(example(), func(c *api.Config) { c.Audit.Level = n }), "", api.ErrConfigForm)
	}
}

// a list of a config, which can be made as long as n says.
type list struct {
	name   string
	become func(c *api.Config, n int)
}

func lists() []list {
	return []list{
		{"Flows", func(c *api.Config, n int) { c.Flows = slices.Repeat([][2]int{{3, 4}}, n) }},
		{"Parts", func(c *api.Config, n int) { c.Parts = slices.Repeat([]api.Part{{Level: 3, Pages: 4}}, n) }},
		{"Windows", func(c *api.Config, n int) { c.Windows = slices.Repeat([]api.Window{{Kind: 3, Ticks: 4}}, n) }},
		{"Ports", func(c *api.Config, n int) { c.Ports = slices.Repeat([]api.Port{{Size: 3, Depth: 4}}, n) }},
		{"Volumes", func(c *api.Config, n int) { c.Volumes = slices.Repeat([]api.Volume{{First: 3, Count: 4}}, n) }},
		{"Rules", func(c *api.Config, n int) { c.Rules = slices.Repeat([]api.Rule{{From: 3, With: "4"}}, n) }},
		{"Keys", func(c *api.Config, n int) { c.Keys = slices.Repeat([]string{"34"}, n) }},
	}
}

func TestPrintOfLongLists(t *testing.T) {
	for _, l := range lists() {
		for _, n := range []int{0, 1, 254, 255} {
			c := example()
			l.become(&c, n)
			s, e := config.Print(c)
			if e != api.OK {
				t.Errorf("%s of %d: Print: %d", l.name, n, e)
			}
			wantParse(t, l.name, s, c, api.OK)
		}
		for _, n := range []int{256, 257, 511, 512, 1000} {
			c := example()
			l.become(&c, n)
			wantPrint(t, l.name, c, "", api.ErrConfigForm)
		}
	}
}

// textsOf are places of texts in a config.
func textsOf() map[string]func(c *api.Config, s string) {
	return map[string]func(c *api.Config, s string){
		"Pattern": func(c *api.Config, s string) { c.Rules[1].Pattern = s },
		"With":    func(c *api.Config, s string) { c.Rules[3].With = s },
		"a key":   func(c *api.Config, s string) { c.Keys[3] = s },
		"Login":   func(c *api.Config, s string) { c.Login = s },
	}
}

func TestPrintOfLongTexts(t *testing.T) {
	for what, change := range textsOf() {
		for _, n := range []int{0, 1, 255, 256, 1023, 1024} {
			c := copied(rich())
			change(&c, strings.Repeat("\x80", n))
			s, e := config.Print(c)
			if e != api.OK {
				t.Errorf("%s of %d: Print: %d", what, n, e)
			}
			wantParse(t, what, s, c, api.OK)
		}
		for _, n := range []int{1025, 65535, 65536, 65537} {
			c := copied(rich())
			change(&c, strings.Repeat("x", n))
			wantPrint(t, what, c, "", api.ErrConfigForm)
		}
	}
}

func TestParseOfLongTexts(t *testing.T) {
	head, tail := "CST1"+strings.Repeat("\x00", 18), "\x00\x00\x00\x00"
	text := strings.Repeat("x", 1025)
	wantParse(t, 1024, head+"\x04\x00"+text[1:]+tail, api.Config{Login: text[1:]}, api.OK)
	wantParse(t, 1025, head+"\x04\x01"+text+tail, api.Config{}, api.ErrConfigText)
	wantParse(t, 65535, head+"\xff\xff"+strings.Repeat("x", 65535)+tail, api.Config{}, api.ErrConfigText)
}

func TestParseOfWhatIsNone(t *testing.T) {
	for _, c := range []api.Config{example(), rich(), {}} {
		s, _ := config.Print(c)
		for n := range len(s) {
			wantParse(t, n, s[:n], api.Config{}, api.ErrConfigText)
		}
		for _, more := range []string{"\x00", "x", "\xff", "\x00\x00", s} {
			wantParse(t, more, s+more, api.Config{}, api.ErrConfigText)
			wantParse(t, more, more+s, api.Config{}, api.ErrConfigText)
		}
		for i, b := range []byte("CST1") {
			for _, other := range []byte{b + 1, b ^ 0x20, 0, 255} {
				wantParse(t, i, s[:i]+string([]byte{other})+s[i+1:], api.Config{}, api.ErrConfigText)
			}
		}
		wantParse(t, "without the mark", s[4:], api.Config{}, api.ErrConfigText)
	}
	for _, s := range []string{"C", "CST", "CST1", "CST2", strings.Repeat("\xff", 1000), strings.Repeat("\x00", 28), "CST1" + strings.Repeat("\xff", 100000)} {
		wantParse(t, len(s), s, api.Config{}, api.ErrConfigText)
	}
}

// P11.3: whatever is parsed is printed the same, and the other way.

func TestParseOfPrint(t *testing.T) {
	rnd := rand.New(rand.NewSource(1))
	for range 3000 {
		c := anyConfig(rnd)
		s, e := config.Print(c)
		if e != api.OK {
			t.Fatalf("Print of %v: %d", c, e)
		}
		wantParse(t, "any", s, c, api.OK)
	}
}

// anyConfig is one that can be laid.
func anyConfig(rnd *rand.Rand) api.Config {
	var c api.Config
	for _, l := range lists() {
		l.become(&c, rnd.Intn(4)*rnd.Intn(4))
	}
	for _, f := range numbersOf(&c) {
		*f.n = rnd.Intn(256)
		if f.wide {
			*f.n = rnd.Intn(65536)
		}
	}
	for i := range c.Rules {
		c.Rules[i].Pattern, c.Rules[i].With = anyText(rnd), anyText(rnd)
	}
	for i := range c.Keys {
		c.Keys[i] = anyText(rnd)
	}
	c.Login = anyText(rnd)
	return c
}

func anyText(rnd *rand.Rand) string {
	b := make([]byte, rnd.Intn(8))
	rnd.Read(b)
	return string(b)
}

func TestPrintOfParse(t *testing.T) {
	rnd := rand.New(rand.NewSource(2))
	parsed := 0
	for _, c := range []api.Config{example(), rich()} {
		s, _ := config.Print(c)
		for range 20000 {
			b := []byte(s)
			for range 1 + rnd.Intn(3) {
				b[4+rnd.Intn(len(b)-4)] = byte(rnd.Intn(256) >> rnd.Intn(8))
			}
			c, e := config.Parse(string(b))
			if e != api.OK {
				wantParse(t, "changed bytes", string(b), api.Config{}, api.ErrConfigText)
				continue
			}
			parsed++
			wantPrint(t, "changed bytes", c, string(b), api.OK)
		}
	}
	if parsed < 10000 {
		t.Errorf("only %d were parsed", parsed)
	}
}
