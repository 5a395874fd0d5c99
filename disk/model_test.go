package disk_test

import (
	"math/rand"
	"slices"
	"strings"
	"testing"

	"castellan/api"
	"castellan/disk"
)

// model is chapter 7's words once more: each sector has its safe bytes, and its written ones, if it is unsafe.
type model struct {
	sectors []sector
	gone    bool
	further int // the power goes in so many changes; 0: nothing is armed
	then    []int
}

type sector struct {
	safe, written string
	isUnsafe      bool
}

func (s sector) read() string {
	if s.isUnsafe {
		return s.written
	}
	return s.safe
}

func (s sector) left(c int) string {
	switch {
	case !s.isUnsafe || c < 1:
		return s.safe
	case c > 127:
		return s.written
	}
	return s.written[:c] + s.safe[c:]
}

func modelOf(image string) *model {
	m := &model{}
	for ; len(image) > 0; image = image[128:] {
		m.sectors = append(m.sectors, sector{safe: image[:128]})
	}
	return m
}

func (m *model) clone() *model {
	return &model{slices.Clone(m.sectors), m.gone, m.further, slices.Clone(m.then)}
}

func (m *model) image() string { return m.all(func(_ int, s sector) string { return s.read() }) }

func (m *model) safe() string { return m.all(func(_ int, s sector) string { return s.safe }) }

func (m *model) after(choices []int) string {
	return m.all(func(i int, s sector) string {
		c := 0
		if i < len(choices) {
			c = choices[i]
		}
		return s.left(c)
	})
}

func (m *model) all(tell func(i int, s sector) string) string {
	var b strings.Builder
	for i, s := range m.sectors {
		b.WriteString(tell(i, s))
	}
	return b.String()
}

func (m *model) waiting() []int {
	var l []int
	for i, s := range m.sectors {
		if s.isUnsafe {
			l = append(l, i)
		}
	}
	return l
}

func (m *model) read(at int) (string, api.Errno) {
	switch {
	case m.gone:
		return "", api.ErrDead
	case at < 0 || at >= len(m.sectors):
		return "", api.ErrDiskAt
	}
	return m.sectors[at].read(), api.OK
}

func (m *model) crash(choices []int) api.Errno {
	if m.gone {
		return api.ErrDead
	}
	*m = *modelOf(m.after(choices))
	m.gone = true
	return api.OK
}

func (m *model) arm(n int, choices []int) api.Errno {
	switch {
	case m.gone:
		return api.ErrDead
	case n < 0:
		return api.ErrArg
	}
	m.further, m.then = n, slices.Clone(choices)
	return api.OK
}

func (m *model) revive() { m.gone, m.further, m.then = false, 0, nil }

// last tells whether the power goes in this change.
func (m *model) last() bool {
	if m.further == 0 {
		return false
	}
	m.further--
	return m.further == 0
}

func (m *model) write(at int, s string) api.Errno {
	switch {
	case m.gone:
		return api.ErrDead
	case at < 0 || at >= len(m.sectors):
		return api.ErrDiskAt
	case len(s) != 128:
		return api.ErrDiskLong
	}
	m.sectors[at].written, m.sectors[at].isUnsafe = s, true
	if m.last() {
		m.crash(m.then)
		return api.ErrDead
	}
	return api.OK
}

func (m *model) flush(first, count int) api.Errno {
	n := len(m.sectors)
	switch {
	case m.gone:
		return api.ErrDead
	case first < 0 || count < 0 || first > n || count > n || first+count > n:
		return api.ErrDiskAt
	}
	if m.last() {
		m.crash(m.then)
		return api.ErrDead
	}
	for i, s := range m.sectors {
		if first <= i && i < first+count {
			m.sectors[i] = sector{safe: s.read()}
		}
	}
	return api.OK
}

// A step is a call that may change something.
type step struct {
	kind, a, b int
	s          string
	choices    []int
}

const (
	write = iota // a: at, s
	flush        // a: first, b: count
	arm          // a: n, choices
	crash        // choices
	revive
)

func (x step) onDisk(d *disk.Disk) api.Errno {
	switch x.kind {
	case write:
		return d.Write(x.a, x.s)
	case flush:
		return d.Flush(x.a, x.b)
	case arm:
		return d.Arm(x.a, x.choices)
	case crash:
		return d.Crash(x.choices)
	}
	d.Revive()
	return api.OK
}

func (x step) onModel(m *model) api.Errno {
	switch x.kind {
	case write:
		return m.write(x.a, x.s)
	case flush:
		return m.flush(x.a, x.b)
	case arm:
		return m.arm(x.a, x.choices)
	case crash:
		return m.crash(x.choices)
	}
	m.revive()
	return api.OK
}

// wantAsModel holds against each other all that a disk and a model tell.
func wantAsModel(t *testing.T, what any, d *disk.Disk, m *model, choices ...[]int) {
	t.Helper()
	if d.Count() != len(m.sectors) || d.Dead() != m.gone || !slices.Equal(d.Waiting(), m.waiting()) {
		t.Fatalf("%v: Count %d, Dead %v, Waiting %v; not %d, %v, %v", what, d.Count(), d.Dead(), d.Waiting(), len(m.sectors), m.gone, m.waiting())
	}
	if d.Image() != m.image() || d.Safe() != m.safe() {
		t.Fatalf("%v: Image or Safe are others", what)
	}
	for i := -1; i <= len(m.sectors); i++ {
		s, e := d.Read(i)
		if want, we := m.read(i); s != want || e != we {
			t.Fatalf("%v: Read(%d): %q, %d, not %q, %d", what, i, s, e, want, we)
		}
	}
	for _, c := range choices {
		if d.After(c) != m.after(c) {
			t.Fatalf("%v: After(%v) is another one", what, c)
		}
	}
}

func wantStep(t *testing.T, what any, x step, d *disk.Disk, m *model) {
	t.Helper()
	e := x.onDisk(d)
	if want := x.onModel(m); e != want {
		t.Fatalf("%v: %v answered %d, not %d", what, x, e, want)
	}
}

// fewSteps are some of each kind, wrong ones too, for a disk of two sectors.
func fewSteps() []step {
	return []step{
		{kind: write, a: 0, s: filled("a")}, {kind: write, a: 1, s: filled("bc")}, {kind: write, a: 2, s: filled("a")}, {kind: write, a: 1, s: filled("a")[1:]},
		{kind: flush, a: 0, b: 1}, {kind: flush, a: 1, b: 1}, {kind: flush, a: 0, b: 2}, {kind: flush, a: 1, b: 2}, {kind: flush, a: 2, b: 0},
		{kind: arm, a: 0, choices: []int{128, 128}}, {kind: arm, a: 1, choices: []int{3, 128, 9}}, {kind: arm, a: 2, choices: []int{128}}, {kind: arm, a: -1},
		{kind: crash, choices: []int{-5, 77}}, {kind: crash}, {kind: revive},
	}
}

// All rows of four of these steps; each one goes on from clones of what stood ahead of it.
func TestAllShortRuns(t *testing.T) {
	image := filled("-") + filled("=")
	d, e := disk.New(image)
	if e != api.OK {
		t.Fatal(e)
	}
	runAll(t, nil, d, modelOf(image), 4)
}

func runAll(t *testing.T, past []step, d *disk.Disk, m *model, more int) {
	t.Helper()
	wantAsModel(t, past, d, m, nil, []int{1}, []int{127, 128}, []int{0, 64, 1})
	if more == 0 {
		return
	}
	for _, x := range fewSteps() {
		run := append(slices.Clone(past), x)
		c, n := d.Clone(), m.clone()
		wantStep(t, run, x, c, n)
		runAll(t, run, c, n, more-1)
	}
	wantAsModel(t, past, d, m, nil, []int{1}, []int{127, 128})
}

// Long runs on one disk, with a clone now and then, from which the run goes on.
func TestLongRuns(t *testing.T) {
	rnd := rand.New(rand.NewSource(7))
	for _, n := range []int{1, 2, 3, 7, 30, 128, 1000} {
		for range max(1, 200/n) {
			longRun(t, rnd, n)
		}
	}
}

func longRun(t *testing.T, rnd *rand.Rand, n int) {
	t.Helper()
	image := anyBytes(rnd, 128*n)
	d, m := diskOf(t, image), modelOf(image)
	for i := range 300 {
		x := anyStep(rnd, n)
		wantStep(t, i, x, d, m)
		if i%max(1, n/16) == 0 {
			wantAsModel(t, i, d, m, anyChoices(rnd, n))
		}
		if rnd.Intn(40) == 0 {
			d, m = d.Clone(), m.clone()
		}
		if rnd.Intn(4) == 0 && m.gone {
			d.Revive()
			m.revive()
		}
	}
	wantAsModel(t, "the end", d, m, anyChoices(rnd, n))
}

func anyStep(rnd *rand.Rand, n int) step {
	switch r := rnd.Intn(40); {
	case r < 20:
		return step{kind: write, a: rnd.Intn(n), s: anyBytes(rnd, 128)}
	case r < 22:
		return step{kind: write, a: rnd.Intn(n+4) - 2, s: anyBytes(rnd, 127+rnd.Intn(3))}
	case r < 30:
		first := rnd.Intn(n + 1)
		return step{kind: flush, a: first, b: rnd.Intn(n - first + 1)}
	case r < 32:
		return step{kind: flush, a: rnd.Intn(n+4) - 2, b: rnd.Intn(n+4) - 2}
	case r < 36:
		return step{kind: arm, a: rnd.Intn(12) - 1, choices: anyChoices(rnd, n)}
	case r < 38:
		return step{kind: crash, choices: anyChoices(rnd, n)}
	}
	return step{kind: revive}
}

// anyChoices are often of other numbers than n, with such as leave nothing, all, and a part.
func anyChoices(rnd *rand.Rand, n int) []int {
	l := make([]int, rnd.Intn(n+3))
	for i := range l {
		l[i] = rnd.Intn(150) - 10
	}
	return l
}
