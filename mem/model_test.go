package mem_test

import (
	"math"
	"math/rand"
	"slices"
	"testing"

	"castellan/api"
	"castellan/mem"
)

// model is chapter 8's words once more: frames, gone over byte by byte.
type model [][]byte

func modelOf(frames int) model {
	m := make(model, frames)
	for f := range m {
		m[f] = make([]byte, 256)
	}
	return m
}

func (m model) clone() model {
	c := slices.Clone(m)
	for f := range c {
		c[f] = slices.Clone(c[f])
	}
	return c
}

func (m model) check(t []api.Page) api.Errno {
	if len(t) > 16 {
		return api.ErrMemForm
	}
	for _, p := range t {
		switch {
		case p.Frame < -1 || p.Frame >= len(m) || p.Rights < 0 || p.Rights > 7:
			return api.ErrMemForm
		case p.Frame == -1 && p.Rights != 0:
			return api.ErrMemForm
		}
	}
	return api.OK
}

// at is where a byte lies, or what is wrong with it.
func (m model) at(t []api.Page, at, right int) (*byte, api.Errno) {
	if at < 0 || at/256 >= len(t) || t[at/256].Frame == -1 {
		return nil, api.ErrMemAt
	}
	p := t[at/256]
	has := map[int][]int{api.Reads: {1, 3, 5, 7}, api.Writes: {2, 3, 6, 7}, api.Runs: {4, 5, 6, 7}}
	if !slices.Contains(has[right], p.Rights) {
		return nil, api.ErrMemRight
	}
	return &m[p.Frame][at%256], api.OK
}

// all are the places of n bytes.
func (m model) all(t []api.Page, at, n, right int) ([]*byte, api.Errno) {
	var l []*byte
	for i := range n {
		// Behind the greatest number nothing is.
		if at > math.MaxInt-i {
			return nil, api.ErrMemAt
		}
		b, e := m.at(t, at+i, right)
		if e != api.OK {
			return nil, e
		}
		l = append(l, b)
	}
	return l, api.OK
}

func (m model) read(t []api.Page, at, n, right int) (string, api.Errno) {
	if e := m.check(t); e != api.OK {
		return "", e
	}
	if n < 0 || n > 4096 || right != 1 && right != 4 {
		return "", api.ErrMemSize
	}
	l, e := m.all(t, at, n, right)
	var s []byte
	for _, b := range l {
		s = append(s, *b)
	}
	return string(s), e
}

func (m model) write(t []api.Page, at int, s string) api.Errno {
	if e := m.check(t); e != api.OK {
		return e
	}
	if len(s) > 4096 {
		return api.ErrMemSize
	}
	l, e := m.all(t, at, len(s), 2)
	for i, b := range l {
		*b = s[i]
	}
	return e
}

func (m model) load(t []api.Page, at, w, right int) (int, api.Errno) {
	if e := m.check(t); e != api.OK {
		return 0, e
	}
	if w != 1 && w != 2 && w != 4 {
		return 0, api.ErrMemSize
	}
	s, e := m.read(t, at, w, right)
	n := 0
	for i := range len(s) {
		n = n*256 + int(s[i])
	}
	return n, e
}

func (m model) store(t []api.Page, at, w, n int) api.Errno {
	if e := m.check(t); e != api.OK {
		return e
	}
	if w != 1 && w != 2 && w != 4 {
		return api.ErrMemSize
	}
	u := uint32(n)
	return m.write(t, at, string([]byte{byte(u >> 24), byte(u >> 16), byte(u >> 8), byte(u)}[4-w:]))
}

func (m model) lay(f, at int, s string) api.Errno {
	switch {
	case f < 0 || f >= len(m):
		return api.ErrMemFrame
	case at < 0 || at > 256 || at+len(s) > 256:
		return api.ErrMemSize
	}
	for i := range len(s) {
		m[f][at+i] = s[i]
	}
	return api.OK
}

func (m model) clear(f int) api.Errno {
	if f < 0 || f >= len(m) {
		return api.ErrMemFrame
	}
	m[f] = make([]byte, 256)
	return api.OK
}

// wantAsModel holds all frames against each other, and what is told of those that are none.
func wantAsModel(t *testing.T, what any, m *mem.Memory, w model) {
	t.Helper()
	if m.Frames() != len(w) {
		t.Fatalf("%v: %d frames, not %d", what, m.Frames(), len(w))
	}
	for f, want := range w {
		if s, e := m.Frame(f); s != string(want) || e != api.OK {
			t.Fatalf("%v: Frame(%d): %q, %d, not %q", what, f, s, e, want)
		}
	}
	for _, f := range noFrames(len(w)) {
		wantFrame(t, m, f, "", api.ErrMemFrame)
	}
}

// wantReads holds against each other what a table tells.
func wantReads(t *testing.T, m *mem.Memory, w model, table []api.Page, at, n, right int) {
	t.Helper()
	s, e := m.Read(table, at, n, right)
	if want, we := w.read(table, at, n, right); s != want || e != we {
		t.Fatalf("Read(%v, %d, %d, %d): %q, %d, not %q, %d", table, at, n, right, s, e, want, we)
	}
	x, e := m.Load(table, at, n, right)
	if want, we := w.load(table, at, n, right); x != want || e != we {
		t.Fatalf("Load(%v, %d, %d, %d): %d, %d, not %d, %d", table, at, n, right, x, e, want, we)
	}
}

// fewPages are some that may be in a memory of two frames.
func fewPages() []api.Page {
	return pages(-1, 0, 0, 0, 0, 3, 0, 4, 0, 7, 1, 1, 1, 2, 1, 6)
}

// tables are all rows of so many of these pages.
func tables(pages []api.Page, n int) [][]api.Page {
	l := [][]api.Page{nil}
	for range n {
		var next [][]api.Page
		for _, t := range l {
			for _, p := range pages {
				next = append(next, append(slices.Clone(t), p))
			}
		}
		l = next
	}
	return l
}

// edges are addresses at which pages begin and end, or that are none.
func edges(pages int) []int {
	l := []int{math.MinInt, math.MinInt + 1, -4096, -257, -256, -255, -1, math.MaxInt - 4096, math.MaxInt - 1, math.MaxInt, 1 << 32, 4095, 4096}
	for p := range pages + 2 {
		l = append(l, 256*p, 256*p+1, 256*p+100, 256*p+252, 256*p+254, 256*p+255)
	}
	return l
}

// All tables of few pages, at all edges, with lengths that go on from page to page.
func TestAllShortTables(t *testing.T) {
	rnd := rand.New(rand.NewSource(1))
	m, w := filledMemory(t, rnd, 2)
	for n := range 4 {
		for _, table := range tables(fewPages(), n) {
			want(t, "Check", m.Check(table), api.OK)
			for _, at := range edges(n) {
				wantReadsOfAll(t, m, w, table, at)
				wantWrites(t, rnd, m, w, table, at)
			}
			wantAsModel(t, table, m, w)
		}
	}
}

func wantReadsOfAll(t *testing.T, m *mem.Memory, w model, table []api.Page, at int) {
	t.Helper()
	for _, n := range []int{0, 1, 2, 4, 5, 156, 257} {
		for _, right := range []int{api.Reads, api.Runs} {
			wantReads(t, m, w, table, at, n, right)
		}
	}
}

func wantWrites(t *testing.T, rnd *rand.Rand, m *mem.Memory, w model, table []api.Page, at int) {
	t.Helper()
	for _, n := range []int{0, 1, 2, 4, 5, 157, 258} {
		s, x := anyBytes(rnd, n), int(rnd.Uint64())
		if e, we := m.Write(table, at, s), w.write(table, at, s); e != we {
			t.Fatalf("Write(%v, %d, %q): %d, not %d", table, at, s, e, we)
		}
		if e, we := m.Store(table, at, n, x), w.store(table, at, n, x); e != we {
			t.Fatalf("Store(%v, %d, %d, %d): %d, not %d", table, at, n, x, e, we)
		}
	}
}

// Long runs on one memory, with a clone now and then: one of the two goes on, the other stays as it was.
func TestLongRuns(t *testing.T) {
	rnd := rand.New(rand.NewSource(2))
	for _, n := range []int{1, 2, 3, 16, 17, 40, 159, 160} {
		m, w := filledMemory(t, rnd, n)
		for i := range 1500 {
			anyCall(t, rnd, m, w)
			if i%50 == 0 {
				wantAsModel(t, i, m, w)
				c, v := m.Clone(), w.clone()
				anyCall(t, rnd, m, w)
				anyCall(t, rnd, m, w)
				wantAsModel(t, i, c, v)
				if i%100 == 0 {
					m, w = c, v
				}
			}
		}
		wantAsModel(t, "the end", m, w)
	}
}

// anyCall makes one on both.
func anyCall(t *testing.T, rnd *rand.Rand, m *mem.Memory, w model) {
	t.Helper()
	table := anyTable(rnd, len(w))
	at, n := rnd.Intn(256*(len(table)+1)+2)-1, rnd.Intn(5)
	if rnd.Intn(3) == 0 {
		n = rnd.Intn(4200) - 2
	}
	s, f := anyBytes(rnd, max(n, 0)), rnd.Intn(len(w)+2)-1
	switch rnd.Intn(9) {
	case 0, 1:
		wantReads(t, m, w, table, at, n, rnd.Intn(9)-1)
	case 2, 3:
		wantReads(t, m, w, table, at, n, []int{api.Reads, api.Runs}[rnd.Intn(2)])
	case 4, 5:
		wantSame(t, "Write", m.Write(table, at, s), w.write(table, at, s))
	case 6:
		x := int(rnd.Uint64())
		wantSame(t, "Store", m.Store(table, at, n, x), w.store(table, at, n, x))
	case 7:
		at, s = rnd.Intn(260)-2, s[:min(len(s), rnd.Intn(200))]
		wantSame(t, "Lay", m.Lay(f, at, s), w.lay(f, at, s))
	case 8:
		wantSame(t, "Clear", m.Clear(f), w.clear(f))
	}
}

func wantSame(t *testing.T, what string, e, want api.Errno) {
	t.Helper()
	if e != want {
		t.Fatalf("%s: %d, not %d", what, e, want)
	}
}

// anyTable is one that mostly may be, with most rights on most pages, so that long rows are there often.
func anyTable(rnd *rand.Rand, frames int) []api.Page {
	t := make([]api.Page, rnd.Intn(17))
	for i := range t {
		t[i] = api.Page{Frame: rnd.Intn(frames), Rights: 7}
		if rnd.Intn(6) == 0 {
			t[i].Rights = rnd.Intn(8)
		}
		if rnd.Intn(12) == 0 {
			t[i] = api.Page{Frame: -1}
		}
		if rnd.Intn(200) == 0 {
			t[i] = api.Page{Frame: rnd.Intn(frames+4) - 2, Rights: rnd.Intn(12) - 2}
		}
	}
	return t
}
