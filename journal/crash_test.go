package journal_test

import (
	"math/rand"
	"slices"
	"strconv"
	"strings"
	"testing"

	"castellan/api"
	"castellan/disk"
	"castellan/journal"
)

// P16.6

// A life is what becomes of a journal from an opening on: the cells behind each beginning of its transactions, and which of these are sure to be there.
type life struct {
	states []string // what all cells have, one behind the other
	sure   int      // the first of the states that may be found
}

// begins is a new one, in which a journal was just opened.
func begins(state string) *life { return &life{[]string{state}, 0} }

func (l *life) last() string { return l.states[len(l.states)-1] }

// commits is one transaction more, even if the power goes in it.
func (l *life) commits(writes []api.Write) {
	b := []byte(l.last())
	for _, x := range writes {
		copy(b[116*x.Cell:], full(x.Data))
	}
	l.states = append(l.states, string(b))
}

// isSafe makes all transactions so far sure.
func (l *life) isSafe() { l.sure = len(l.states) - 1 }

func (l *life) has(state string) bool { return slices.Contains(l.states[l.sure:], state) }

// stateOf is what all cells have.
func stateOf(t *testing.T, j *journal.Journal) string {
	t.Helper()
	s := ""
	for cell := range j.Cells() {
		data, e := j.Read(cell)
		if e != api.OK {
			t.Fatalf("Read(%d): %d", cell, e)
		}
		s += data
	}
	return s
}

// openedState opens an image, and tells what is there.
func openedState(t *testing.T, image string, area int) string {
	t.Helper()
	_, j := opened(t, image, area)
	return stateOf(t, j)
}

// A call is one of a journal's, that tells a life of it.
type call func(j *journal.Journal, l *life) api.Errno

func commit(writes ...api.Write) call {
	return func(j *journal.Journal, l *life) api.Errno {
		l.commits(writes)
		return j.Commit(writes)
	}
}

func makesSafe(do func(j *journal.Journal) api.Errno) call {
	return func(j *journal.Journal, l *life) api.Errno {
		e := do(j)
		if e == api.OK {
			l.isSafe()
		}
		return e
	}
}

var sync, checkpoint = makesSafe((*journal.Journal).Sync), makesSafe((*journal.Journal).Checkpoint)

// broken lets the power go in the n-th change of an image's opening and of some calls: it tells what is on the disk if nothing that was unsafe is left, and if all is; and the life up to there. It is false if there are not so many changes.
func broken(t *testing.T, image string, area, n int, calls []call) (old, new string, l *life, is bool) {
	t.Helper()
	for _, choices := range [][]int{nil, everything()} {
		d := diskOf(t, image)
		want(t, "Arm", d.Arm(n, choices), api.OK)
		if l, is = lives(t, d, area, calls); !is {
			return "", "", nil, false
		}
		old, new = new, d.Image()
	}
	return old, new, l, true
}

// lives opens a journal and does some calls, up to the one in which the power goes: false, if it goes in none.
func lives(t *testing.T, d *disk.Disk, area int, calls []call) (*life, bool) {
	t.Helper()
	l := begins(openedState(t, d.Image(), area))
	j, e := journal.Open(whole(t, d), area)
	for _, c := range calls {
		if e != api.OK {
			break
		}
		e = c(j, l)
	}
	if e != api.OK && e != api.ErrDead {
		t.Fatalf("a call: %d", e)
	}
	return l, e == api.ErrDead
}

// cuts are how many bytes of a sector are left new: none, some, up to within the stamp, and all.
var cuts = []int{0, 61, 127, 128}

// eachLeft goes through what choices leave of a disk: all ways, if there are few unsafe sectors, else some by chance.
func eachLeft(rnd *rand.Rand, old, new string, some int, do func(image string)) {
	var unsafe []int
	ways := 1
	for at := 0; at < len(old); at += 128 {
		if old[at:at+128] != new[at:at+128] {
			unsafe = append(unsafe, at)
			ways = min(ways*len(cuts), some+1)
		}
	}
	for way := range min(ways, some) {
		b := []byte(old)
		for i, at := range unsafe {
			cut := cuts[way>>(2*i)%len(cuts)]
			if ways > some {
				cut = anyChoice(rnd)
			}
			copy(b[at:at+cut], new[at:])
		}
		do(string(b))
	}
}

// eachCrash lets the power go in each change of an opening and of some calls, and in the openings behind that, and holds what is found.
func eachCrash(t *testing.T, rnd *rand.Rand, image string, area int, calls []call) (found int) {
	for n := 1; ; n++ {
		old, new, l, is := broken(t, image, area, n, calls)
		if !is {
			return found
		}
		eachLeft(rnd, old, new, 100, func(left string) {
			found++
			state := openedState(t, left, area)
			if !l.has(state) {
				t.Fatalf("change %d: %q is not of the %d states from %d on", n, state, len(l.states), l.sure)
			}
			for m := 1; ; m++ {
				o, n, _, is := broken(t, left, area, m, nil)
				if !is {
					break
				}
				eachLeft(rnd, o, n, 2, func(again string) {
					if s := openedState(t, again, area); s != state {
						t.Fatalf("what was opened is %q, and behind a crash in that %q", state, s)
					}
				})
			}
		})
	}
}

// startOf is the image of a journal whose next record has a number, with records of earlier lives in its area.
func startOf(area, cells, number int) string {
	s := head(number-number%2, number) + head(number+1-number%2-2, 1)
	for len(s)+128*2 <= 128*area {
		s += record(number-1, w(cells-1, "old"))
	}
	for len(s) < 128*area {
		s += unsummed(number - 1)
	}
	for cell := range cells {
		s += sector("home "+strconv.Itoa(cell), 0)
	}
	return s
}

func TestEachCrashOfAStory(t *testing.T) {
	long := strings.Repeat("l", 116)
	stories := [][]call{
		{commit(w(0, "a")), commit(w(1, "b"), w(0, "c")), sync, commit(w(0, "d")), commit(w(1, "e"))},
		{commit(w(0, "a"), w(1, "b")), commit(w(0, "a"), w(1, "b")), checkpoint, commit(w(1, long)), sync},
		{sync, commit(w(1, "a")), checkpoint, checkpoint, commit(w(1, "b")), commit(w(1, "a")), commit(w(0, "z"))},
		// Data that look as what a journal has itself.
		{commit(w(0, cellsData(1)), w(1, cellsData(0))), commit(w(1, headData(9))), commit(w(0, cellsData(0))), checkpoint},
		{commit(w(0, cellsData(0, 1))), commit(w(0, "")), commit(w(0, cellsData(0))), sync, commit(w(1, ""), w(0, ""))},
	}
	found := 0
	for seed, story := range stories {
		for _, area := range []int{5, 8} {
			for _, number := range []int{2, 255 + seed} {
				found += eachCrash(t, rand.New(rand.NewSource(int64(seed))), startOf(area, 2, number), area, story)
			}
		}
	}
	if found < 3000 {
		t.Errorf("only %d crashes", found)
	}
}

// Behind a commit alone, nothing is sure; behind a Sync it is; and whatever is left, it is wholly there or not at all.
func TestCommitIsWholeOrNotAtAll(t *testing.T) {
	image := head(2, 1) + homes(7)
	d, j := opened(t, image, 5)
	want(t, "Commit", j.Commit([]api.Write{w(0, "a"), w(2, "b")}), api.OK)
	neither, both := 0, 0
	for _, zero := range cuts {
		for _, one := range cuts {
			for _, two := range cuts {
				switch s := openedState(t, d.After([]int{128, 128, zero, one, two}), 5); s {
				case full("") + full("") + full(""):
					neither++
				case full("a") + full("") + full("b"):
					both++
				default:
					t.Errorf("%d, %d, %d: %q", zero, one, two, s)
				}
			}
		}
	}
	// The stamps 0 and 1 have but their last byte unlike: up to it all may be new, and is not there.
	wantInt(t, "both", both, 1)
	wantInt(t, "neither", neither, 63)
	want(t, "Sync", j.Sync(), api.OK)
	if s := openedState(t, d.After(nil), 5); s != full("a")+full("")+full("b") {
		t.Errorf("behind a Sync: %q", s)
	}
}

// A number is never used twice, even if a torn stamp is greater than all that were.
func TestTornStampsAreLeftBehind(t *testing.T) {
	image := head(2, 256) + homes(1) + sector("x", 255) + sector("x", 255) + sector("x", 255) + homes(3)
	d, j := opened(t, image, 5)
	want(t, "Commit", j.Commit(writes(2, "a")), api.OK)
	left := d.After([]int{128, 128, 0, 127, 0}) // the stamp 256 over 255 is torn to 511
	d, j = opened(t, left, 5)
	wantInt(t, "Next", j.Next(), 512)
	wantImage(t, d.Safe(), head(2, 256)+head(3, 512)+left[256:])
	wantCells(t, j, "", "", "")
}

// A hundred lives, each of which ends by a crash, in its opening or later on.
func TestManyLives(t *testing.T) {
	for seed := range int64(60) {
		rnd := rand.New(rand.NewSource(seed))
		area, cells := 4+rnd.Intn(9), 1+rnd.Intn(5)
		image := startOf(area, cells, []int{2, 3, 200, 255, 65500}[rnd.Intn(5)])
		l := begins(openedState(t, image, area))
		for n := range 100 {
			state := openedState(t, image, area)
			if !l.has(state) {
				t.Fatalf("seed %d, life %d: %q is not of the %d states from %d on", seed, n, state, len(l.states), l.sure)
			}
			d := diskOf(t, image)
			want(t, "Arm", d.Arm(1+rnd.Intn(30), anyChoices(rnd, area+cells)), api.OK)
			l, _ = lives(t, d, area, anyCalls(rnd, cells, min(3, area-3)))
			if !d.Dead() {
				want(t, "Crash", d.Crash(anyChoices(rnd, area+cells)), api.OK)
			}
			image = d.Image()
		}
	}
}

func anyCalls(rnd *rand.Rand, cells, most int) []call {
	l := make([]call, rnd.Intn(20))
	for i := range l {
		switch rnd.Intn(8) {
		case 0:
			l[i] = sync
		case 1:
			l[i] = checkpoint
		default:
			n := 1 + rnd.Intn(min(cells, most))
			var writes []api.Write
			for _, cell := range rnd.Perm(cells)[:n] {
				writes = append(writes, w(cell, anyData(rnd)))
			}
			l[i] = commit(writes...)
		}
	}
	return l
}
