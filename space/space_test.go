package space_test

import (
	"math"
	"math/rand"
	"slices"
	"strings"
	"testing"

	"castellan/api"
	"castellan/space"
)

func noughts(n int) string { return strings.Repeat("\x00", n) }

func anyBytes(rnd *rand.Rand, n int) string {
	b := make([]byte, n)
	rnd.Read(b)
	return string(b)
}

// partsOf are partitions with so many pages, of levels that go round.
func partsOf(pages ...int) []api.Part {
	var l []api.Part
	for i, n := range pages {
		l = append(l, api.Part{Level: i % 8, Pages: n})
	}
	return l
}

func anyParts(rnd *rand.Rand) []api.Part {
	var l []api.Part
	for range 1 + rnd.Intn(8) {
		l = append(l, api.Part{Level: rnd.Intn(8), Pages: 1 + rnd.Intn(16)})
	}
	return l
}

// noParts are no partitions of n.
func noParts(n int) []int {
	return []int{-1, -2, n, n + 1, n + 8, 256, 1 << 32, math.MinInt, math.MaxInt}
}

// pages are a table of such pages: of each one its frame, and its rights.
func pages(numbers ...int) []api.Page {
	t := make([]api.Page, len(numbers)/2)
	for i := range t {
		t[i] = api.Page{Frame: numbers[2*i], Rights: numbers[2*i+1]}
	}
	return t
}

func spaceOf(t *testing.T, parts []api.Part) *space.Space {
	t.Helper()
	s, e := space.New(parts)
	if s == nil || e != api.OK {
		t.Fatalf("New(%v): %v, %d", parts, s != nil, e)
	}
	return s
}

// fill gives any bytes to all pages of both.
func fill(t *testing.T, rnd *rand.Rand, s *space.Space, w model) {
	t.Helper()
	for part := range w {
		for i, page := range s.Table(part) {
			bytes := anyBytes(rnd, 256)
			want(t, "Lay", s.Memory().Lay(page.Frame, 0, bytes), api.OK)
			copy(w[part].bytes[256*i:], bytes)
		}
	}
}

func want(t *testing.T, what string, got, e api.Errno) {
	t.Helper()
	if got != e {
		t.Errorf("%s: %d, not %d", what, got, e)
	}
}

func wantNone(t *testing.T, parts []api.Part) {
	t.Helper()
	if s, e := space.New(parts); s != nil || e != api.ErrSpacePart {
		t.Errorf("New(%v): %v, %d", parts, s != nil, e)
	}
}

func wantTable(t *testing.T, s *space.Space, part int, table []api.Page) {
	t.Helper()
	if got := s.Table(part); !slices.Equal(got, table) {
		t.Errorf("Table(%d): %v, not %v", part, got, table)
	}
}

func wantIn(t *testing.T, s *space.Space, part, at, n int, bytes string, e api.Errno) {
	t.Helper()
	if got, ge := s.In(part, at, n); got != bytes || ge != e {
		t.Errorf("In(%d, %d, %d): %q, %d, not %q, %d", part, at, n, got, ge, bytes, e)
	}
}

func wantFrame(t *testing.T, s *space.Space, frame int, bytes string) {
	t.Helper()
	if got, e := s.Memory().Frame(frame); got != bytes || e != api.OK {
		t.Errorf("frame %d: %q, %d, not %q", frame, got, e, bytes)
	}
}

// The chapter's examples.

func TestExamples(t *testing.T) {
	wantNone(t, nil)
	wantNone(t, partsOf(17))
	s := spaceOf(t, partsOf(2, 1))
	wantTable(t, s, 1, pages(2, 3))
	wantTable(t, s, 2, nil)
	want(t, "Load(0, 4 bytes)", s.Load(0, "keep"), api.OK)
	wantTable(t, s, 0, pages(0, 5, 1, 3))
	want(t, "Out(0, 256, `ab`)", s.Out(0, 256, "ab"), api.OK)
	wantIn(t, s, 0, 255, 3, "\x00ab", api.OK)
	want(t, "Out(0, 255, `x`)", s.Out(0, 255, "x"), api.ErrSpaceAt)
	wantIn(t, s, 0, 511, 2, "", api.ErrSpaceAt)
	wantIn(t, s, 0, 0, 256, "", api.ErrSpaceLong)
	wantIn(t, s, 2, 0, 0, "", api.ErrSpacePart)
	want(t, "Load(1, 257 bytes)", s.Load(1, noughts(257)), api.ErrSpaceLong)
}

// P12.1

func TestNewOfHowMany(t *testing.T) {
	wantNone(t, []api.Part{})
	for n := 1; n <= 40; n++ {
		for _, p := range []int{1, 2, 16} {
			parts := partsOf(slices.Repeat([]int{p}, n)...)
			if n > 8 {
				wantNone(t, parts)
				continue
			}
			wantAsModel(t, parts, spaceOf(t, parts), modelOf(parts))
		}
	}
}

func TestNewOfPages(t *testing.T) {
	for _, n := range []int{-1, -2, 0, 17, 18, 32, 161, 256, 1 << 32, 1<<32 + 1, math.MinInt, math.MaxInt} {
		wantNone(t, partsOf(n))
		wantNone(t, partsOf(n, 1, 1))
		wantNone(t, partsOf(1, n, 1))
		wantNone(t, partsOf(1, 1, 1, 1, 1, 1, 1, n))
	}
	for n := 1; n <= 16; n++ {
		for _, parts := range [][]api.Part{partsOf(n), partsOf(n, 1), partsOf(1, n), partsOf(16, n, 3, n, 16)} {
			wantAsModel(t, parts, spaceOf(t, parts), modelOf(parts))
		}
	}
}

func TestNewOfLevels(t *testing.T) {
	for _, level := range []int{-1, -2, -8, 8, 9, 16, 256, 1 << 32, math.MinInt, math.MaxInt} {
		for place := range 8 {
			parts := partsOf(1, 2, 3, 4, 5, 6, 7, 8)
			parts[place].Level = level
			wantNone(t, parts)
			wantNone(t, parts[:place+1])
		}
	}
	for level := range 8 {
		parts := []api.Part{{Level: level, Pages: 2}, {Level: 7 - level, Pages: 1}, {Level: level, Pages: 1}}
		wantAsModel(t, parts, spaceOf(t, parts), modelOf(parts))
	}
}

// Two things that are wrong are no better than one.
func TestNewOfMoreThanOneWrong(t *testing.T) {
	wantNone(t, []api.Part{{Level: 8, Pages: 17}})
	wantNone(t, []api.Part{{Level: -1, Pages: 1}, {Level: 0, Pages: 0}})
	wantNone(t, make([]api.Part, 9))
}

// The frames of one stand behind those of the one ahead of it.
func TestFramesAreDealtOutInOrder(t *testing.T) {
	s := spaceOf(t, partsOf(3, 1, 2))
	wantTable(t, s, 0, pages(0, 3, 1, 3, 2, 3))
	wantTable(t, s, 1, pages(3, 3))
	wantTable(t, s, 2, pages(4, 3, 5, 3))
	for _, part := range noParts(3) {
		wantTable(t, s, part, nil)
	}
	for f := range 6 {
		wantFrame(t, s, f, noughts(256))
	}
	if n := s.Memory().Frames(); n != 6 {
		t.Errorf("%d frames", n)
	}
}

// The memory is the space's own: what is changed there is there for the space, and the other way.
func TestMemoryIsTheSpaces(t *testing.T) {
	s := spaceOf(t, partsOf(2, 1))
	m := s.Memory()
	want(t, "Lay", m.Lay(2, 10, "keep"), api.OK)
	wantIn(t, s, 1, 9, 6, "\x00keep\x00", api.OK)
	want(t, "Write", m.Write(s.Table(0), 254, "room"), api.OK)
	wantIn(t, s, 0, 254, 4, "room", api.OK)
	want(t, "Out", s.Out(1, 10, "door"), api.OK)
	if got, e := m.Frame(2); got != noughts(10)+"door"+noughts(242) || e != api.OK {
		t.Errorf("frame 2: %q, %d", got, e)
	}
	if s.Memory() != m {
		t.Error("another memory is told")
	}
	want(t, "Load", s.Load(1, ""), api.OK)
	if got, e := m.Read(s.Table(1), 0, 256, api.Reads); got != noughts(256) || e != api.OK {
		t.Errorf("behind a Load: %q, %d", got, e)
	}
}

// P12.2

// Of a partition that is not there each call says so, whatever else is wrong.
func TestPartsThatAreNone(t *testing.T) {
	rnd := rand.New(rand.NewSource(5))
	for _, parts := range [][]api.Part{partsOf(1), partsOf(2, 3), partsOf(1, 2, 3, 4, 5, 6, 7, 16)} {
		s, w := spaceOf(t, parts), modelOf(parts)
		fill(t, rnd, s, w)
		for _, part := range noParts(len(parts)) {
			for _, n := range []int{0, 1, 255, 256, 4097, 5000} {
				want(t, "Load", s.Load(part, noughts(n)), api.ErrSpacePart)
				for _, at := range []int{0, 1, -1, 4096, math.MinInt, math.MaxInt} {
					want(t, "Out", s.Out(part, at, noughts(n)), api.ErrSpacePart)
					wantIn(t, s, part, at, n, "", api.ErrSpacePart)
					wantIn(t, s, part, at, -n, "", api.ErrSpacePart)
				}
			}
		}
		wantAsModel(t, parts, s, w)
	}
}

// Programs of each length near the end of a page, in partitions of all sizes.
func TestLoadOfLengths(t *testing.T) {
	rnd := rand.New(rand.NewSource(6))
	for size := 1; size <= 16; size++ {
		parts := partsOf(2, size, 1)
		s, w := spaceOf(t, parts), modelOf(parts)
		for page := 0; page <= size+1; page++ {
			for _, near := range []int{-2, -1, 0, 1, 2, 128} {
				program := anyBytes(rnd, max(0, 256*page+near))
				fill(t, rnd, s, w)
				e := api.OK
				if len(program) > 256*size {
					e = api.ErrSpaceLong
				}
				want(t, "Load", s.Load(1, program), e)
				want(t, "Load of the model", w.load(1, program), e)
				wantAsModel(t, len(program), s, w)
			}
		}
	}
}

func TestLoadOfLongOnes(t *testing.T) {
	rnd := rand.New(rand.NewSource(7))
	parts := partsOf(1, 16, 1)
	s, w := spaceOf(t, parts), modelOf(parts)
	want(t, "Load", s.Load(1, noughts(300)), w.load(1, noughts(300)))
	fill(t, rnd, s, w)
	for _, n := range []int{4097, 4098, 8192, 1 << 16, 1 << 20} {
		for part := range parts {
			want(t, "Load", s.Load(part, noughts(n)), api.ErrSpaceLong)
		}
	}
	want(t, "Load", s.Load(0, noughts(257)), api.ErrSpaceLong)
	want(t, "Load", s.Load(2, noughts(4096)), api.ErrSpaceLong)
	wantAsModel(t, "behind these", s, w)
}

// A load is told by its program alone: not by the one ahead of it, not by what that one left.
func TestLoadAnew(t *testing.T) {
	s := spaceOf(t, partsOf(1, 3))
	want(t, "Load", s.Load(1, strings.Repeat("x", 768)), api.OK)
	wantTable(t, s, 1, pages(1, 5, 2, 5, 3, 5))
	want(t, "Load", s.Load(1, "keep"), api.OK)
	wantTable(t, s, 1, pages(1, 5, 2, 3, 3, 3))
	wantFrame(t, s, 1, "keep"+noughts(252))
	wantFrame(t, s, 2, noughts(256))
	wantFrame(t, s, 3, noughts(256))
	want(t, "Out", s.Out(1, 600, "data"), api.OK)
	want(t, "Load", s.Load(1, strings.Repeat("y", 257)), api.OK)
	wantTable(t, s, 1, pages(1, 5, 2, 5, 3, 3))
	wantFrame(t, s, 2, "y"+noughts(255))
	wantFrame(t, s, 3, noughts(256))
	want(t, "Load", s.Load(1, ""), api.OK)
	wantTable(t, s, 1, pages(1, 3, 2, 3, 3, 3))
	wantFrame(t, s, 1, noughts(256))
	wantTable(t, s, 0, pages(0, 3))
}

func TestInOfNumbers(t *testing.T) {
	s := spaceOf(t, partsOf(1, 2, 1))
	want(t, "Lay", s.Memory().Lay(0, 255, "<"), api.OK)
	want(t, "Lay", s.Memory().Lay(3, 0, ">"), api.OK)
	want(t, "Out", s.Out(1, 0, "ab"), api.OK)
	want(t, "Out", s.Out(1, 510, "yz"), api.OK)
	for _, n := range []int{-1, -2, -255, 256, 257, 512, 1 << 32, math.MinInt, math.MaxInt} {
		for _, at := range []int{0, 256, 511, 512, -1, math.MinInt, math.MaxInt} {
			wantIn(t, s, 1, at, n, "", api.ErrSpaceLong)
		}
	}
	for _, at := range []int{-1, -2, -256, 512, 513, 1 << 32, math.MinInt, math.MinInt + 1, math.MaxInt, math.MaxInt - 1} {
		for _, n := range []int{1, 2, 3, 255} {
			wantIn(t, s, 1, at, n, "", api.ErrSpaceAt)
		}
		// Of no bytes none is wrong.
		wantIn(t, s, 1, at, 0, "", api.OK)
	}
	wantIn(t, s, 1, 0, 3, "ab\x00", api.OK)
	wantIn(t, s, 1, 509, 3, "\x00yz", api.OK)
	wantIn(t, s, 1, 511, 1, "z", api.OK)
	wantIn(t, s, 1, 510, 3, "", api.ErrSpaceAt)
	wantIn(t, s, 1, 257, 255, noughts(253)+"yz", api.OK)
	wantIn(t, s, 1, 258, 255, "", api.ErrSpaceAt)
}

func TestOutOfNumbers(t *testing.T) {
	rnd := rand.New(rand.NewSource(9))
	parts := partsOf(1, 2, 1)
	s, w := spaceOf(t, parts), modelOf(parts)
	fill(t, rnd, s, w)
	for _, n := range []int{256, 257, 512, 4097, 1 << 16} {
		for _, at := range []int{0, 256, 511, 512, -1, math.MinInt, math.MaxInt} {
			want(t, "a long Out", s.Out(1, at, noughts(n)), api.ErrSpaceLong)
		}
	}
	for _, at := range []int{-1, -2, -256, 512, 513, 1 << 32, math.MinInt, math.MinInt + 1, math.MaxInt, math.MaxInt - 1} {
		for _, n := range []int{1, 2, 3, 255} {
			want(t, "Out where nothing is", s.Out(1, at, noughts(n)), api.ErrSpaceAt)
		}
		want(t, "Out of nothing", s.Out(1, at, ""), api.OK)
	}
	want(t, "Out over the end", s.Out(1, 511, "xy"), api.ErrSpaceAt)
	want(t, "Out over the end", s.Out(1, 258, noughts(255)), api.ErrSpaceAt)
	wantAsModel(t, "behind these", s, w)
	for _, at := range []int{0, 1, 255, 256, 257} {
		bytes := anyBytes(rnd, 255)
		want(t, "Out", s.Out(1, at, bytes), api.OK)
		want(t, "Out of the model", w.out(1, at, bytes), api.OK)
		wantIn(t, s, 1, at, 255, bytes, api.OK)
		wantAsModel(t, at, s, w)
	}
}

// What the program has of pages is read, not written, behind its last byte too.
func TestCopiesAtAProgram(t *testing.T) {
	s := spaceOf(t, partsOf(1, 3))
	want(t, "Load", s.Load(1, strings.Repeat("p", 257)), api.OK)
	for _, at := range []int{0, 1, 255, 256, 257, 300, 511} {
		want(t, "Out", s.Out(1, at, "x"), api.ErrSpaceAt)
	}
	want(t, "Out from the program on", s.Out(1, 511, "xy"), api.ErrSpaceAt)
	want(t, "Out from the program on", s.Out(1, 500, noughts(255)), api.ErrSpaceAt)
	want(t, "Out of nothing", s.Out(1, 0, ""), api.OK)
	wantIn(t, s, 1, 255, 4, "pp\x00\x00", api.OK)
	wantIn(t, s, 1, 511, 2, "\x00\x00", api.OK)
	want(t, "Out", s.Out(1, 512, "data"), api.OK)
	wantIn(t, s, 1, 510, 6, "\x00\x00data", api.OK)
	wantFrame(t, s, 1, strings.Repeat("p", 256))
	wantFrame(t, s, 2, "p"+noughts(255))
}

// P12.3

func TestClone(t *testing.T) {
	rnd := rand.New(rand.NewSource(10))
	parts := partsOf(2, 1, 3)
	s, w := spaceOf(t, parts), modelOf(parts)
	fill(t, rnd, s, w)
	want(t, "Load", s.Load(2, noughts(300)), w.load(2, noughts(300)))
	c, v := s.Clone(), w.clone()
	wantAsModel(t, "the clone", c, v)
	if c.Memory() == s.Memory() {
		t.Error("the clone has no memory of its own")
	}
	want(t, "Load", s.Load(0, "original"), w.load(0, "original"))
	wantAsModel(t, "the clone", c, v)
	want(t, "Load", c.Load(2, "the clone's"), v.load(2, "the clone's"))
	wantAsModel(t, "the original", s, w)
	want(t, "Out", s.Out(1, 7, "original"), w.out(1, 7, "original"))
	want(t, "Out", c.Out(0, 250, "the clone's"), v.out(0, 250, "the clone's"))
	wantAsModel(t, "the original", s, w)
	wantAsModel(t, "the clone", c, v)
}

// R4: the partitions are neither changed nor kept, nor the room behind them.
func TestPartsStayTheCallers(t *testing.T) {
	room := partsOf(2, 1, 3, 4)
	parts := room[:2]
	s := spaceOf(t, parts)
	w := modelOf(parts)
	want(t, "Load", s.Load(0, "keep"), w.load(0, "keep"))
	if !slices.Equal(room, partsOf(2, 1, 3, 4)) {
		t.Errorf("the partitions were changed: %v", room)
	}
	for i := range room {
		room[i] = api.Part{Level: 77, Pages: 9}
	}
	wantAsModel(t, "behind a change", s, w)
	wantAsModel(t, "its clone", s.Clone(), w)
}

// R4: what is answered is new memory, spare room too.
func TestTablesAreTheCallers(t *testing.T) {
	parts := partsOf(2, 1, 3)
	s, w := spaceOf(t, parts), modelOf(parts)
	c := s.Clone()
	for part := range parts {
		a, b := s.Table(part), s.Table(part)
		for _, l := range [][]api.Page{a[:cap(a)], append(s.Table(part), pages(5, 7, 5, 7, 5, 7)...)} {
			for i := range l {
				l[i] = api.Page{Frame: 5, Rights: 7}
			}
		}
		if !slices.Equal(b, w.table(part)) {
			t.Errorf("two tables of %d share memory: %v", part, b)
		}
		wantAsModel(t, part, s, w)
		wantAsModel(t, part, c, w)
	}
}
