package mem_test

import (
	"math"
	"math/rand"
	"slices"
	"strings"
	"testing"

	"castellan/api"
	"castellan/mem"
)

func noughts(n int) string { return strings.Repeat("\x00", n) }

func anyBytes(rnd *rand.Rand, n int) string {
	b := make([]byte, n)
	rnd.Read(b)
	return string(b)
}

func memoryOf(t *testing.T, frames int) *mem.Memory {
	t.Helper()
	m, e := mem.New(frames)
	if m == nil || e != api.OK {
		t.Fatalf("New(%d): %v, %d", frames, m != nil, e)
	}
	return m
}

// filledMemory has any bytes.
func filledMemory(t *testing.T, rnd *rand.Rand, frames int) (*mem.Memory, model) {
	t.Helper()
	m, w := memoryOf(t, frames), modelOf(frames)
	for f := range frames {
		s := anyBytes(rnd, 256)
		want(t, "Lay", m.Lay(f, 0, s), api.OK)
		w[f] = []byte(s)
	}
	return m, w
}

func want(t *testing.T, what string, got, e api.Errno) {
	t.Helper()
	if got != e {
		t.Errorf("%s: %d, not %d", what, got, e)
	}
}

func wantRead(t *testing.T, m *mem.Memory, table []api.Page, at, n, right int, s string, e api.Errno) {
	t.Helper()
	if got, ge := m.Read(table, at, n, right); got != s || ge != e {
		t.Errorf("Read(%v, %d, %d, %d): %q, %d, not %q, %d", table, at, n, right, got, ge, s, e)
	}
}

func wantLoad(t *testing.T, m *mem.Memory, table []api.Page, at, w, right, n int, e api.Errno) {
	t.Helper()
	if got, ge := m.Load(table, at, w, right); got != n || ge != e {
		t.Errorf("Load(%v, %d, %d, %d): %d, %d, not %d, %d", table, at, w, right, got, ge, n, e)
	}
}

func wantFrame(t *testing.T, m *mem.Memory, f int, s string, e api.Errno) {
	t.Helper()
	if got, ge := m.Frame(f); got != s || ge != e {
		t.Errorf("Frame(%d): %q, %d, not %q, %d", f, got, ge, s, e)
	}
}

// pages are a table of such pages: of each one its frame, and its rights.
func pages(numbers ...int) []api.Page {
	t := make([]api.Page, len(numbers)/2)
	for i := range t {
		t[i] = api.Page{Frame: numbers[2*i], Rights: numbers[2*i+1]}
	}
	return t
}

// noFrames are no frames of n.
func noFrames(n int) []int {
	return []int{-1, -2, -256, n, n + 1, 256 * n, api.MaxFrames + n, 1 << 32, math.MinInt, math.MaxInt}
}

// own is a table of the first n frames, in their order, with all rights.
func own(n int) []api.Page {
	var t []api.Page
	for f := range n {
		t = append(t, api.Page{Frame: f, Rights: 7})
	}
	return t
}

// three is the table of the chapter's examples.
func three() []api.Page { return pages(1, api.Reads|api.Writes, -1, 0, 0, api.Reads|api.Runs) }

// The chapter's examples.

func TestExamples(t *testing.T) {
	for _, n := range []int{0, 161} {
		if m, e := mem.New(n); m != nil || e != api.ErrMemSize {
			t.Errorf("New(%d): %v, %d", n, m != nil, e)
		}
	}
	m, table := memoryOf(t, 2), three()
	want(t, "Write(t, 250, `abcdef`)", m.Write(table, 250, "abcdef"), api.OK)
	want(t, "Write(t, 250, `abcdefg`)", m.Write(table, 250, "abcdefg"), api.ErrMemAt)
	wantRead(t, m, table, 250, 6, api.Reads, "abcdef", api.OK)
	wantFrame(t, m, 1, noughts(250)+"abcdef", api.OK)
	want(t, "Store(t, 0, 4, -2)", m.Store(table, 0, 4, -2), api.OK)
	wantLoad(t, m, table, 0, 4, api.Reads, 1<<32-2, api.OK)
	wantLoad(t, m, table, 2, 1, api.Reads, 255, api.OK)
	want(t, "Write(t, 512, `x`)", m.Write(table, 512, "x"), api.ErrMemRight)
	wantRead(t, m, table, 512, 1, api.Runs, "\x00", api.OK)
	wantRead(t, m, table, 0, 1, api.Runs, "", api.ErrMemRight)
	wantRead(t, m, table, 768, 0, api.Reads, "", api.OK)
	wantRead(t, m, table, 768, 1, api.Reads, "", api.ErrMemAt)
	wantRead(t, m, table, -1, 1, api.Reads, "", api.ErrMemAt)
	want(t, "Lay(0, 255, `ab`)", m.Lay(0, 255, "ab"), api.ErrMemSize)
	want(t, "Lay(2, 0, empty)", m.Lay(2, 0, ""), api.ErrMemFrame)
	want(t, "Check((frame 2, 0))", m.Check(pages(2, 0)), api.ErrMemForm)
	want(t, "Check((frame -1, 1))", m.Check(pages(-1, 1)), api.ErrMemForm)
}

// P8.1

func TestNew(t *testing.T) {
	for _, n := range []int{-1, -2, 0, 161, 162, 320, 4096, 1 << 40, math.MinInt, math.MaxInt} {
		if m, e := mem.New(n); m != nil || e != api.ErrMemSize {
			t.Errorf("New(%d): %v, %d", n, m != nil, e)
		}
	}
	for n := 1; n <= 160; n++ {
		wantAsModel(t, n, memoryOf(t, n), modelOf(n))
	}
}

func TestCheckOfPages(t *testing.T) {
	for _, n := range []int{1, 2, 9, 160} {
		m, w := memoryOf(t, n), modelOf(n)
		for _, f := range append(noFrames(n), 0, 1, n-1, n/2, -3) {
			for _, r := range []int{0, 1, 2, 3, 4, 5, 6, 7, 8, 9, 16, -1, -2, -8, 255, 1 << 32, math.MinInt, math.MaxInt} {
				p := api.Page{Frame: f, Rights: r}
				want(t, "Check of one", m.Check([]api.Page{p}), w.check([]api.Page{p}))
				want(t, "Check of the first", m.Check(pages(f, r, 0, 7)), w.check([]api.Page{p}))
				want(t, "Check of the last", m.Check(append(slices.Repeat(pages(0, 1, -1, 0, n-1, 7), 5), p)), w.check([]api.Page{p}))
			}
		}
	}
}

func TestCheckOfLengths(t *testing.T) {
	m := memoryOf(t, 3)
	for n := range 40 {
		e := api.OK
		if n > 16 {
			e = api.ErrMemForm
		}
		want(t, "Check of such that lie nowhere", m.Check(slices.Repeat(pages(-1, 0), n)), e)
		want(t, "Check of such that lie on one", m.Check(slices.Repeat(pages(2, 5), n)), e)
	}
	want(t, "Check of an empty one", m.Check([]api.Page{}), api.OK)
}

// wrongTables are some for which Check has an error, in a memory of two frames.
func wrongTables() [][]api.Page {
	return [][]api.Page{pages(2, 7), pages(0, 7, -2, 0), pages(0, 8), pages(0, 7, 0, -1), pages(0, 7, -1, 4), slices.Repeat(pages(0, 7), 17)}
}

func TestCallsWithWrongTables(t *testing.T) {
	rnd := rand.New(rand.NewSource(3))
	m, w := filledMemory(t, rnd, 2)
	for _, table := range wrongTables() {
		want(t, "Check", m.Check(table), api.ErrMemForm)
		for _, at := range []int{0, 1, 4096, -1} {
			for _, n := range []int{0, 1, 3, 4, -1, 4097} {
				for _, right := range []int{api.Reads, api.Runs, api.Writes, 0} {
					wantRead(t, m, table, at, n, right, "", api.ErrMemForm)
					wantLoad(t, m, table, at, n, right, 0, api.ErrMemForm)
				}
				want(t, "Write", m.Write(table, at, noughts(max(n, 0))), api.ErrMemForm)
				want(t, "Store", m.Store(table, at, n, 7), api.ErrMemForm)
			}
		}
	}
	wantAsModel(t, "behind these", m, w)
}

// P8.2

func TestReadOfSizes(t *testing.T) {
	rnd := rand.New(rand.NewSource(4))
	m, w := filledMemory(t, rnd, 16)
	for _, n := range []int{0, 1, 255, 256, 257, 4095, 4096, 4097, 4098, 8192, -1, -2, -4096, 1 << 40, math.MinInt, math.MaxInt} {
		for _, right := range []int{0, 1, 2, 3, 4, 5, 6, 7, 8, -1, 1 << 32, math.MinInt, math.MaxInt} {
			wantReads(t, m, w, own(16), 0, n, right)
			wantReads(t, m, w, own(16), 1, n, right)
			wantReads(t, m, w, nil, 0, n, right)
			wantReads(t, m, w, three(), -7, n, right)
		}
	}
	wantRead(t, m, nil, math.MinInt, 0, api.Runs, "", api.OK)
	wantRead(t, m, nil, 0, -1, api.Reads, "", api.ErrMemSize)
	wantRead(t, m, nil, 0, 0, api.Reads|api.Runs, "", api.ErrMemSize)
	wantRead(t, m, own(16), 0, 1, api.Writes, "", api.ErrMemSize)
}

func TestWriteOfSizes(t *testing.T) {
	rnd := rand.New(rand.NewSource(5))
	for _, n := range []int{0, 1, 255, 256, 257, 511, 4095, 4096} {
		m, w := filledMemory(t, rnd, 17)
		s := anyBytes(rnd, n)
		want(t, "Write", m.Write(own(16), 4096-n, s), w.write(own(16), 4096-n, s))
		wantRead(t, m, own(16), 4096-n, n, api.Reads, s, api.OK)
		wantRead(t, m, own(16), 4096-n, n, api.Runs, s, api.OK)
		wantAsModel(t, n, m, w)
		want(t, "Write of one too many", m.Write(own(16), 4097-n, s), map[bool]api.Errno{true: api.OK, false: api.ErrMemAt}[n == 0])
		wantAsModel(t, n, m, w)
	}
	m, w := filledMemory(t, rnd, 17)
	for _, n := range []int{4097, 4098, 5000, 8192, 1 << 20} {
		for _, at := range []int{0, -1, 1, 4096, math.MinInt, math.MaxInt} {
			want(t, "a long Write", m.Write(own(16), at, noughts(n)), api.ErrMemSize)
		}
		want(t, "a long Write to nothing", m.Write(nil, 0, noughts(n)), api.ErrMemSize)
	}
	wantAsModel(t, "behind these", m, w)
}

// The first byte decides with which something is wrong, whatever is wrong with later ones.
func TestFirstWrongByteDecides(t *testing.T) {
	rnd := rand.New(rand.NewSource(6))
	m, w := filledMemory(t, rnd, 2)
	for _, x := range []struct {
		table []api.Page
		at, n int
		read  api.Errno
		write api.Errno
	}{
		{pages(0, 7, 0, 0, -1, 0), 255, 258, api.ErrMemRight, api.ErrMemRight},
		{pages(0, 7, -1, 0, 0, 0), 255, 258, api.ErrMemAt, api.ErrMemAt},
		{pages(0, 2, -1, 0), 255, 2, api.ErrMemRight, api.ErrMemAt},
		{pages(0, 1, -1, 0), 255, 2, api.ErrMemAt, api.ErrMemRight},
		{pages(0, 0), -1, 2, api.ErrMemAt, api.ErrMemAt},
		{pages(0, 7, 1, 3, 1, 6), 0, 768, api.ErrMemRight, api.OK},
		{pages(0, 4), 255, 1, api.ErrMemRight, api.ErrMemRight},
		{pages(0, 0), 255, 2, api.ErrMemRight, api.ErrMemRight},
		{pages(0, 7), 255, 2, api.ErrMemAt, api.ErrMemAt},
		{pages(0, 7), 256, 1, api.ErrMemAt, api.ErrMemAt},
		{nil, 0, 1, api.ErrMemAt, api.ErrMemAt},
	} {
		wantRead(t, m, x.table, x.at, x.n, api.Reads, "", x.read)
		s := anyBytes(rnd, x.n)
		want(t, "Write", m.Write(x.table, x.at, s), x.write)
		want(t, "Write of the model", w.write(x.table, x.at, s), x.write)
		wantAsModel(t, x, m, w)
	}
}

// Where two pages lie on one frame, a later byte is laid over an earlier one.
func TestWriteOverItself(t *testing.T) {
	m := memoryOf(t, 2)
	s := strings.Repeat("a", 256) + strings.Repeat("b", 100)
	want(t, "Write", m.Write(pages(1, 2, 1, 7), 0, s), api.OK)
	wantFrame(t, m, 1, strings.Repeat("b", 100)+strings.Repeat("a", 156), api.OK)
	wantFrame(t, m, 0, noughts(256), api.OK)
	want(t, "Write of all pages on one", m.Write(slices.Repeat(pages(0, 2), 16), 0, strings.Repeat("x", 4095)+"y"), api.OK)
	wantFrame(t, m, 0, strings.Repeat("x", 255)+"y", api.OK)
	wantRead(t, m, pages(1, 1, -1, 0, 1, 5, 1, 1), 512+99, 258, api.Reads, "b"+strings.Repeat("a", 156)+strings.Repeat("b", 100)+"a", api.OK)
}

// P8.3

func TestWidths(t *testing.T) {
	m, table := memoryOf(t, 1), own(1)
	want(t, "Lay", m.Lay(0, 0, "\x81\x92\xa3\xb4\xc5\x06\x07\x08"), api.OK)
	for w := -9; w < 40; w++ {
		n, e := 0, api.ErrMemSize
		switch w {
		case 1:
			n, e = 0x81, api.OK
		case 2:
			n, e = 0x8192, api.OK
		case 4:
			n, e = 0x8192a3b4, api.OK
		}
		wantLoad(t, m, table, 0, w, api.Reads, n, e)
		want(t, "Store", m.Clone().Store(table, 0, w, 5), e)
	}
	for _, w := range []int{256, 4096, 1<<32 + 1, 1 << 62, math.MinInt, math.MaxInt} {
		wantLoad(t, m, table, 0, w, api.Reads, 0, api.ErrMemSize)
		want(t, "Store", m.Store(table, 0, w, 5), api.ErrMemSize)
	}
	wantFrame(t, m, 0, "\x81\x92\xa3\xb4\xc5\x06\x07\x08"+noughts(248), api.OK)
}

func TestWordsOfAllNumbers(t *testing.T) {
	m, table := memoryOf(t, 2), own(2)
	for _, n := range []int{0, 1, -1, -2, 127, 128, 255, 256, 257, 0x8000, 0xffff, 0x10000, 0x12345678, 1<<31 - 1, 1 << 31, 1<<32 - 1, 1 << 32, 1<<40 + 0x01020304, math.MinInt, math.MaxInt, -0x12345678} {
		for _, at := range []int{0, 3, 253, 254, 255, 256, 508} {
			for _, w := range []int{1, 2, 4} {
				want(t, "Store", m.Store(table, at, w, n), api.OK)
				wantLoad(t, m, table, at, w, api.Reads, n&(1<<(8*w)-1), api.OK)
				wantLoad(t, m, table, at, w, api.Runs, n&(1<<(8*w)-1), api.OK)
				wantLoad(t, m, table, at, 1, api.Reads, n>>(8*w-8)&255, api.OK)
				wantLoad(t, m, table, at+w-1, 1, api.Reads, n&255, api.OK)
			}
		}
	}
}

func TestErrorsOfWords(t *testing.T) {
	m := memoryOf(t, 2)
	table := pages(0, api.Reads, 1, api.Writes, -1, 0, 1, api.Runs)
	for _, right := range []int{0, api.Writes, api.Reads | api.Runs, 8, -1} {
		wantLoad(t, m, table, 0, 1, right, 0, api.ErrMemSize)
		wantLoad(t, m, table, -1, 1, right, 0, api.ErrMemSize)
	}
	wantLoad(t, m, table, -1, 3, api.Reads, 0, api.ErrMemSize)
	wantLoad(t, m, table, 253, 4, api.Reads, 0, api.ErrMemRight)
	wantLoad(t, m, table, 252, 4, api.Reads, 0, api.OK)
	wantLoad(t, m, table, 252, 4, api.Runs, 0, api.ErrMemRight)
	wantLoad(t, m, table, 768, 4, api.Runs, 0, api.OK)
	wantLoad(t, m, table, 767, 2, api.Runs, 0, api.ErrMemAt)
	wantLoad(t, m, table, 1022, 4, api.Runs, 0, api.ErrMemAt)
	wantLoad(t, m, table, math.MaxInt, 4, api.Runs, 0, api.ErrMemAt)
	wantLoad(t, m, table, math.MinInt, 4, api.Runs, 0, api.ErrMemAt)
	want(t, "Store of no width", m.Store(table, -1, 0, -1), api.ErrMemSize)
	want(t, "Store without the right", m.Store(table, 254, 4, -1), api.ErrMemRight)
	want(t, "Store to nothing", m.Store(table, 510, 4, -1), api.ErrMemAt)
	want(t, "Store before all", m.Store(table, -1, 2, -1), api.ErrMemAt)
	want(t, "Store behind all", m.Store(table, math.MaxInt-1, 4, -1), api.ErrMemAt)
	wantAsModel(t, "behind these", m, modelOf(2))
	want(t, "Store", m.Store(table, 508, 4, -1), api.OK)
	wantFrame(t, m, 1, noughts(252)+"\xff\xff\xff\xff", api.OK)
}

// P8.4

func TestFramesThatAreNone(t *testing.T) {
	rnd := rand.New(rand.NewSource(8))
	for _, n := range []int{1, 2, 9, 160} {
		m, w := filledMemory(t, rnd, n)
		for _, f := range noFrames(n) {
			wantFrame(t, m, f, "", api.ErrMemFrame)
			want(t, "Clear", m.Clear(f), api.ErrMemFrame)
			for _, at := range []int{0, 1, -1, 256, 257, math.MinInt, math.MaxInt} {
				for _, k := range []int{0, 1, 256, 257} {
					want(t, "Lay", m.Lay(f, at, noughts(k)), api.ErrMemFrame)
				}
			}
		}
		wantAsModel(t, n, m, w)
	}
}

func TestLay(t *testing.T) {
	rnd := rand.New(rand.NewSource(9))
	m, w := filledMemory(t, rnd, 3)
	for _, at := range []int{0, 1, 2, 127, 128, 250, 254, 255, 256, 257, 258, 300, 512, -1, -2, -256, math.MinInt, math.MinInt + 1, math.MaxInt, math.MaxInt - 1} {
		for _, n := range []int{0, 1, 2, 6, 128, 129, 255, 256, 257, 512, 1000} {
			f, s := rnd.Intn(3), anyBytes(rnd, n)
			want(t, "Lay", m.Lay(f, at, s), w.lay(f, at, s))
			wantAsModel(t, at, m, w)
		}
	}
}

func TestClear(t *testing.T) {
	rnd := rand.New(rand.NewSource(10))
	m, w := filledMemory(t, rnd, 160)
	for _, f := range []int{0, 1, 77, 158, 159} {
		want(t, "Clear", m.Clear(f), api.OK)
		w.clear(f)
		wantFrame(t, m, f, noughts(256), api.OK)
		wantAsModel(t, f, m, w)
	}
}

func TestClone(t *testing.T) {
	rnd := rand.New(rand.NewSource(11))
	m, w := filledMemory(t, rnd, 3)
	c, v := m.Clone(), w.clone()
	wantAsModel(t, "the clone", c, v)
	want(t, "Lay", m.Lay(0, 0, "original"), w.lay(0, 0, "original"))
	want(t, "Write", c.Write(own(3), 250, "the clone's"), v.write(own(3), 250, "the clone's"))
	want(t, "Clear", m.Clear(1), w.clear(1))
	want(t, "Store", c.Store(own(3), 700, 4, -7), v.store(own(3), 700, 4, -7))
	wantAsModel(t, "the original", m, w)
	wantAsModel(t, "the clone", c, v)
}

// P8.5

// Through tables whose frames are apart nobody sees, or changes, what the other one has.
func TestTablesApart(t *testing.T) {
	rnd := rand.New(rand.NewSource(12))
	m, _ := filledMemory(t, rnd, 8)
	left := pages(6, 7, 0, 3, -1, 0, 2, 7, 4, 7)
	right := pages(1, 7, 7, 3, 3, 7, -1, 0, 5, 7)
	for range 500 {
		before := seen(t, m, right)
		other := seen(t, m, left)
		at := rnd.Intn(1300) - 10
		if m.Write(left, at, anyBytes(rnd, rnd.Intn(600))) != api.OK && seen(t, m, left) != other {
			t.Fatal("what is refused changes something")
		}
		if seen(t, m, right) != before {
			t.Fatal("a write is seen through another table")
		}
		m.Store(right, at, 4, rnd.Int())
		left, right = right, left
	}
}

// seen is all that a table of five pages tells.
func seen(t *testing.T, m *mem.Memory, table []api.Page) string {
	t.Helper()
	var s strings.Builder
	for p := range table {
		b, e := m.Read(table, 256*p, 256, api.Reads)
		if (e == api.OK) != (table[p].Frame >= 0) {
			t.Fatalf("page %d of %v: %d", p, table, e)
		}
		s.WriteString(b)
	}
	return s.String()
}

// What is read is told by the frames' bytes, page by page, whatever the pages' order.
func TestReadIsTheFrames(t *testing.T) {
	rnd := rand.New(rand.NewSource(13))
	m, w := filledMemory(t, rnd, 160)
	for range 300 {
		var table []api.Page
		all := ""
		for range 16 {
			f := rnd.Intn(160)
			table = append(table, api.Page{Frame: f, Rights: 1 + 2*rnd.Intn(4)})
			all += string(w[f])
		}
		at := rnd.Intn(4097)
		n := rnd.Intn(4097 - at)
		wantRead(t, m, table, at, n, api.Reads, all[at:at+n], api.OK)
		wantRead(t, m, table, 0, 4096, api.Reads, all, api.OK)
	}
}

// What is written is read, where no two of the pages lie on one frame.
func TestWrittenIsRead(t *testing.T) {
	rnd := rand.New(rand.NewSource(14))
	m, _ := filledMemory(t, rnd, 160)
	for range 300 {
		var table []api.Page
		for _, f := range rnd.Perm(160)[:16] {
			table = append(table, api.Page{Frame: f, Rights: 7})
		}
		at := rnd.Intn(4097)
		s := anyBytes(rnd, rnd.Intn(4097-at))
		want(t, "Write", m.Write(table, at, s), api.OK)
		wantRead(t, m, table, at, len(s), api.Reads, s, api.OK)
	}
}

// R4: tables are neither changed nor kept, nor the room behind them.
func TestTablesStayTheCallers(t *testing.T) {
	m := memoryOf(t, 2)
	room := slices.Repeat(pages(1, 7), 20)
	table := room[:2]
	want(t, "Write", m.Write(table, 0, "keep"), api.OK)
	want(t, "Store", m.Store(table, 300, 4, 5), api.OK)
	m.Check(table)
	m.Read(table, 0, 300, api.Reads)
	m.Load(table, 0, 4, api.Runs)
	if !slices.Equal(room, slices.Repeat(pages(1, 7), 20)) {
		t.Errorf("a table was changed: %v", room)
	}
	wantRead(t, m, table, 512, 1, api.Reads, "", api.ErrMemAt)
	table[0] = api.Page{Frame: 0, Rights: 7}
	wantRead(t, m, table, 0, 4, api.Reads, noughts(4), api.OK)
	wantFrame(t, m, 1, "keep"+noughts(40)+"\x00\x00\x00\x05"+noughts(208), api.OK)
}
