package space_test

import (
	"math/rand"
	"slices"
	"testing"

	"castellan/api"
	"castellan/space"
)

// room is a partition's memory by chapter 12's words: its bytes in one row, and how many of them its program has.
type room struct {
	bytes   []byte
	program int
}

// model is a room for each partition, without frames or tables.
type model []room

func modelOf(parts []api.Part) model {
	w := make(model, len(parts))
	for i, p := range parts {
		w[i].bytes = make([]byte, 256*p.Pages)
	}
	return w
}

func (w model) clone() model {
	c := slices.Clone(w)
	for i := range c {
		c[i].bytes = slices.Clone(c[i].bytes)
	}
	return c
}

// hers tells whether a byte is of a page that the program has.
func (r room) hers(at int) bool {
	first := at - at%256
	return first < r.program
}

func (w model) load(part int, program string) api.Errno {
	if part < 0 || part >= len(w) {
		return api.ErrSpacePart
	}
	r := &w[part]
	if len(program) > len(r.bytes) {
		return api.ErrSpaceLong
	}
	for i := range r.bytes {
		r.bytes[i] = 0
		if i < len(program) {
			r.bytes[i] = program[i]
		}
	}
	r.program = len(program)
	return api.OK
}

func (w model) table(part int) []api.Page {
	if part < 0 || part >= len(w) {
		return nil
	}
	frame := 0
	for _, r := range w[:part] {
		frame += len(r.bytes) / 256
	}
	var t []api.Page
	for at := 0; at < len(w[part].bytes); at += 256 {
		p := api.Page{Frame: frame + at/256, Rights: 3}
		if w[part].hers(at) {
			p.Rights = 5
		}
		t = append(t, p)
	}
	return t
}

func (w model) in(part, at, n int) (string, api.Errno) {
	if part < 0 || part >= len(w) {
		return "", api.ErrSpacePart
	}
	if n < 0 || n > 255 {
		return "", api.ErrSpaceLong
	}
	var s []byte
	for i := range n {
		// The sum may be more than an int holds: then it is below 0.
		if at < 0 || at+i < 0 || at+i >= len(w[part].bytes) {
			return "", api.ErrSpaceAt
		}
		s = append(s, w[part].bytes[at+i])
	}
	return string(s), api.OK
}

func (w model) out(part, at int, s string) api.Errno {
	if part < 0 || part >= len(w) {
		return api.ErrSpacePart
	}
	if len(s) > 255 {
		return api.ErrSpaceLong
	}
	for i := range len(s) {
		if at < 0 || at+i < 0 || at+i >= len(w[part].bytes) || w[part].hers(at+i) {
			return api.ErrSpaceAt
		}
	}
	for i := range len(s) {
		w[part].bytes[at+i] = s[i]
	}
	return api.OK
}

// wantAsModel holds all that a space tells against the model: tables, frames, and what is copied in.
func wantAsModel(t *testing.T, what any, s *space.Space, w model) {
	t.Helper()
	frames := 0
	for part := range w {
		table := w.table(part)
		if got := s.Table(part); !slices.Equal(got, table) {
			t.Fatalf("%v: Table(%d): %v, not %v", what, part, got, table)
		}
		for i, page := range table {
			bytes := string(w[part].bytes[256*i : 256*i+256])
			if got, e := s.Memory().Frame(page.Frame); got != bytes || e != api.OK {
				t.Fatalf("%v: frame %d: %q, %d, not %q", what, page.Frame, got, e, bytes)
			}
			for _, at := range []int{0, 1} {
				if got, e := s.In(part, 256*i+at, 255); got != bytes[at:at+255] || e != api.OK {
					t.Fatalf("%v: In(%d, %d, 255): %q, %d, not %q", what, part, 256*i+at, got, e, bytes[at:at+255])
				}
			}
		}
		frames += len(table)
	}
	if got := s.Memory().Frames(); got != frames {
		t.Fatalf("%v: %d frames, not %d", what, got, frames)
	}
	for _, part := range noParts(len(w)) {
		if got := s.Table(part); len(got) != 0 {
			t.Fatalf("%v: Table(%d): %v", what, part, got)
		}
	}
}

// Long random runs, each call's answer held against the model's.
func TestRunsAsModel(t *testing.T) {
	rnd := rand.New(rand.NewSource(21))
	for range 60 {
		parts := anyParts(rnd)
		s, w := spaceOf(t, parts), modelOf(parts)
		for step := range 300 {
			s, w = oneStep(t, rnd, s, w)
			if step%10 == 0 {
				wantAsModel(t, parts, s, w)
			}
		}
		wantAsModel(t, parts, s, w)
	}
}

// oneStep does something with both, and answers those that are gone on with.
func oneStep(t *testing.T, rnd *rand.Rand, s *space.Space, w model) (*space.Space, model) {
	t.Helper()
	part := rnd.Intn(len(w)+2) - 1
	at := 256*rnd.Intn(18) - 256 + rnd.Intn(9) - 4
	n := []int{0, 1, 2, rnd.Intn(256), 254, 255, 256, 257, -1}[rnd.Intn(9)]
	switch rnd.Intn(8) {
	case 0:
		program := anyBytes(rnd, max(0, 256*rnd.Intn(18)+rnd.Intn(5)-2))
		want(t, "Load", s.Load(part, program), w.load(part, program))
	case 1, 2, 3:
		bytes := anyBytes(rnd, max(n, 0))
		want(t, "Out", s.Out(part, at, bytes), w.out(part, at, bytes))
	case 4:
		c, v := s.Clone(), w.clone()
		if rnd.Intn(2) == 0 {
			// What is given up is changed no more than what is gone on with.
			want(t, "Load", s.Load(0, "\xff"), w.load(0, "\xff"))
			return c, v
		}
		want(t, "Load", c.Load(0, "\xff"), v.load(0, "\xff"))
	default:
		bytes, e := w.in(part, at, n)
		wantIn(t, s, part, at, n, bytes, e)
	}
	return s, w
}

// All calls at all edges of all pages, of two partitions of three, with programs that end at each kind of place.
func TestEdgesAsModel(t *testing.T) {
	rnd := rand.New(rand.NewSource(22))
	parts := partsOf(2, 3, 1)
	for _, n := range []int{0, 1, 255, 256, 257, 511, 512, 513, 767, 768} {
		s, w := spaceOf(t, parts), modelOf(parts)
		fill(t, rnd, s, w)
		program := anyBytes(rnd, n)
		want(t, "Load", s.Load(1, program), w.load(1, program))
		for page := -1; page <= 4; page++ {
			for near := -3; near <= 3; near++ {
				for _, k := range []int{-1, 0, 1, 2, 3, 4, 252, 253, 254, 255, 256} {
					at := 256*page + near
					bytes, e := w.in(1, at, k)
					wantIn(t, s, 1, at, k, bytes, e)
					bytes = anyBytes(rnd, max(k, 0))
					want(t, "Out", s.Out(1, at, bytes), w.out(1, at, bytes))
				}
			}
			wantAsModel(t, n, s, w)
		}
	}
}
