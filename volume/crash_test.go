package volume_test

import (
	"math/rand"
	"slices"
	"testing"

	"castellan/api"
	"castellan/disk"
	"castellan/journal"
	"castellan/volume"
)

// P17.4

// A life is what becomes of a volume from an opening on: its image behind each beginning of its calls, and which of these are sure to be there.
type life struct {
	states []string
	sure   int // the first of the states that may be found
}

func (l *life) has(state string) bool { return slices.Contains(l.states[l.sure:], state) }

// stateOf is the image of what is opened of a disk: all files and directories.
func stateOf(t *testing.T, image string, cells int) string {
	t.Helper()
	entries := reopened(t, image, cells).Entries()
	if !isTree(entries) {
		t.Fatalf("no tree: %+v", entries)
	}
	return (&model{l: entries}).image()
}

// lives opens a volume and does some calls, up to the one in which the power goes.
func lives(t *testing.T, d *disk.Disk, cells int, calls []call) *life {
	t.Helper()
	m := &model{l: reopened(t, d.Image(), cells).Entries()}
	l := &life{states: []string{m.image()}}
	// The model goes on a disk of its own, whose power does not go.
	md, e := disk.New(d.Image())
	want(t, "disk.New", e, api.OK)
	m.journal, e = journal.Open(devOf(t, md), areaOf(cells))
	want(t, "journal.Open", e, api.OK)

	j, e := journal.Open(devOf(t, d), areaOf(cells))
	if e == api.ErrDead {
		return l
	}
	want(t, "journal.Open", e, api.OK)
	v, e := volume.Open(j)
	want(t, "Open", e, api.OK)
	for _, c := range calls {
		w := c.onModel(m)
		l.states = append(l.states, m.image())
		e := c.on(v)
		if e == api.ErrDead {
			break
		}
		want(t, c.String(), e, w)
		if c.name == "Sync" {
			l.sure = len(l.states) - 1
		}
	}
	return l
}

// cuts are how many bytes of a sector are left new: none, some, up to within the stamp, and all.
var cuts = []int{0, 61, 127, 128}

func anyChoices(rnd *rand.Rand, n int) []int {
	l := make([]int, rnd.Intn(n+1))
	for i := range l {
		l[i] = anyOf(rnd, append(cuts, rnd.Intn(129)))
	}
	return l
}

// eachCrash lets the power go in each change of an opening and of some calls, and in the openings behind that.
func eachCrash(t *testing.T, rnd *rand.Rand, image string, cells int, calls []call) (found int) {
	for n := 1; ; n++ {
		for range 12 {
			d, e := disk.New(image)
			want(t, "disk.New", e, api.OK)
			want(t, "Arm", d.Arm(n, anyChoices(rnd, d.Count())), api.OK)
			l := lives(t, d, cells, calls)
			if !d.Dead() {
				return found
			}
			found++
			state := stateOf(t, d.Image(), cells)
			if !l.has(state) {
				t.Fatalf("change %d: %q is not of %q from %d on", n, state, l.states, l.sure)
			}
			for m := 1; ; m++ {
				again, e := disk.New(d.Image())
				want(t, "disk.New", e, api.OK)
				want(t, "Arm", again.Arm(m, anyChoices(rnd, d.Count())), api.OK)
				lives(t, again, cells, nil)
				if !again.Dead() {
					break
				}
				if s := stateOf(t, again.Image(), cells); s != state {
					t.Fatalf("what was opened is %q, and behind a crash in that %q", state, s)
				}
			}
		}
	}
}

func TestEachCrashOfAStory(t *testing.T) {
	stories := [][]call{
		{{name: "Mkdir", path: "/d"}, {name: "Create", path: "/d/f"}, {name: "Write", path: "/d/f", data: full}, {name: "Sync"}, {name: "Rename", path: "/d/f", to: "/g"}, {name: "Remove", path: "/d"}},
		{{name: "Create", path: "/z"}, {name: "Write", path: "/z", data: full}, {name: "Create", path: "/a"}, {name: "Write", path: "/a", data: "abc"}, {name: "Sync"}, {name: "Remove", path: "/z"}, {name: "Create", path: "/b"}},
		{{name: "Sync"}, {name: "Mkdir", path: "/d"}, {name: "Mkdir", path: "/d/d"}, {name: "Remove", path: "/d"}, {name: "Create", path: "/d/d/d"}, {name: "Write", path: "/d/d/d", data: full + full}, {name: "Sync"}, {name: "Write", path: "/d/d/d", at: 3, data: full}, {name: "Rename", path: "/d/d/d", to: "/"}},
	}
	found := 0
	for seed, story := range stories {
		rnd := rand.New(rand.NewSource(int64(seed)))
		found += eachCrash(t, rnd, newImage(t, 4), 4, story)
	}
	if found < 500 {
		t.Errorf("only %d crashes", found)
	}
}

// full are more bytes than a cell has.
const full = "0123456789012345678901234567890123456789012345678901234567890123456789012345678901234567890123456789012345678901234567890123456789"

// A row of lives, each of which ends by a crash, in its opening or later on.
func TestManyLives(t *testing.T) {
	unlike := 0
	for seed := range int64(30) {
		rnd := rand.New(rand.NewSource(seed))
		cells := 1 + rnd.Intn(6)
		image := newImage(t, cells)
		l := &life{states: []string{imageOf()}}
		for n := range 60 {
			state := stateOf(t, image, cells)
			if !l.has(state) {
				t.Fatalf("seed %d, life %d: %q is not of %q from %d on", seed, n, state, l.states, l.sure)
			}
			if state != l.states[len(l.states)-1] {
				unlike++
			}
			d, e := disk.New(image)
			want(t, "disk.New", e, api.OK)
			want(t, "Arm", d.Arm(1+rnd.Intn(60), anyChoices(rnd, d.Count())), api.OK)
			m := &model{l: reopened(t, image, cells).Entries()}
			var calls []call
			for range rnd.Intn(20) {
				calls = append(calls, m.anyCall(rnd))
			}
			l = lives(t, d, cells, calls)
			if !d.Dead() {
				want(t, "Crash", d.Crash(anyChoices(rnd, d.Count())), api.OK)
			}
			image = d.Image()
		}
	}
	if unlike < 100 {
		t.Errorf("only %d crashes of which something was lost", unlike)
	}
}

// What is refused changes nothing: neither on the disk nor in the volume.
func TestWhatIsRefusedChangesNothing(t *testing.T) {
	refused := 0
	for seed := range int64(20) {
		rnd := rand.New(rand.NewSource(seed))
		p := pairOf(t, newImage(t, 5), areaOf(5))
		for range 200 {
			before, image, next := p.v.Entries(), p.disk.Image(), p.journal.Next()
			if e := p.m.anyCall(rnd).on(p.v); e != api.OK {
				refused++
				if !slices.Equal(p.v.Entries(), before) || p.disk.Image() != image || p.journal.Next() != next {
					t.Fatal("something was changed")
				}
			}
			p.m.l = p.v.Entries()
		}
	}
	if refused < 1000 {
		t.Errorf("only %d were refused", refused)
	}
}
