package server_test

import (
	"math/rand"
	"slices"
	"strconv"
	"testing"

	"castellan/api"
	"castellan/lattice"
)

// P18.5

// A step is a call of a server: of a partition, or of a level.
type step struct {
	call, of int
	request  string
}

const (
	submits = iota
	replies
	serves
)

// levelOf is to whom a step belongs.
func (s step) levelOf(levels []int) int {
	if s.call == serves {
		return s.of
	}
	return levels[s.of]
}

func anyStep(rnd *rand.Rand, levels []int, n int) step {
	part := rnd.Intn(len(levels))
	switch rnd.Intn(3) {
	case 0:
		return step{submits, part, anyRequest(rnd, levels[part], n)}
	case 1:
		return step{replies, part, ""}
	}
	return step{serves, anyOf(rnd, levels...), ""}
}

// onlyOf is a step by chance of one of some levels.
func onlyOf(rnd *rand.Rand, levels []int, n int, may []int) step {
	for {
		if s := anyStep(rnd, levels, n); slices.Contains(may, s.levelOf(levels)) {
			return s
		}
	}
}

// do makes the call, and tells all that it answers.
func (s step) do(b *bed) string {
	switch s.call {
	case submits:
		return "Submit " + strconv.Itoa(s.of) + " " + strconv.Itoa(int(b.s.Submit(s.of, s.request)))
	case replies:
		reply, e := b.s.Reply(s.of)
		return "Reply " + strconv.Itoa(s.of) + " " + strconv.Quote(reply) + " " + strconv.Itoa(int(e))
	}
	done, e := b.s.Serve(s.of)
	return "Serve " + strconv.Itoa(s.of) + " " + strconv.FormatBool(done) + " " + strconv.Itoa(int(e)) + " " + strconv.Itoa(b.s.Waiting(s.of))
}

// seen are the answers of all steps of some levels, and what their volumes come to.
func seen(t *testing.T, b *bed, steps []step, at []int) []string {
	t.Helper()
	var l []string
	for _, s := range steps {
		if answer := s.do(b); slices.Contains(at, s.levelOf(b.levels)) {
			l = append(l, answer)
		}
	}
	for _, level := range at {
		l = append(l, strconv.Quote(b.disks[level].Image()))
	}
	return l
}

// others are the same steps, but for those of some levels: of these some are left out, and some come in.
func others(rnd *rand.Rand, steps []step, levels []int, n int, hidden []int) []step {
	var l []step
	for _, s := range steps {
		if !slices.Contains(hidden, s.levelOf(levels)) {
			l = append(l, s)
			continue
		}
		for range rnd.Intn(3) {
			l = append(l, onlyOf(rnd, levels, n, hidden))
		}
	}
	return l
}

// split tells which of the partitions' levels flow to a level, and which do not.
func split(l *lattice.Lattice, levels []int, to int) (below, hidden []int) {
	for _, level := range levels {
		if l.Flows(level, to) {
			below = append(below, level)
		} else {
			hidden = append(hidden, level)
		}
	}
	return below, hidden
}

func TestWhatDoesNotFlowIsNotSeen(t *testing.T) {
	told, runs := 0, 0
	for seed := range int64(150) {
		rnd := rand.New(rand.NewSource(seed))
		l := anyLattice(t, rnd)
		levels, n := anyLevels(rnd, l.Levels()), l.Levels()
		var steps []step
		for range 400 {
			steps = append(steps, anyStep(rnd, levels, n))
		}
		for to := range n {
			below, hidden := split(l, levels, to)
			if len(below) == 0 || len(hidden) == 0 {
				continue
			}
			b, o := bedOf(t, l, levels...), bedOf(t, l, levels...)
			// The power of what is hidden may go in one of the runs.
			want(t, "Arm", o.disks[anyOf(rnd, hidden...)].Arm(rnd.Intn(20), nil), api.OK)
			got, answers := seen(t, o, others(rnd, steps, levels, n, hidden), below), seen(t, b, steps, below)
			if len(got) != len(answers) {
				t.Fatalf("seed %d: %d answers, not %d", seed, len(got), len(answers))
			}
			for i, answer := range answers {
				if got[i] != answer {
					t.Fatalf("seed %d: at the level %d %s is seen, not %s", seed, to, got[i], answer)
				}
			}
			told += len(got)
			runs++
		}
	}
	if runs < 200 || told < 20000 {
		t.Errorf("only %d runs, and %d answers", runs, told)
	}
}

// Nobody writes to a volume but partitions of its own level, when that is served.
func TestOnlyItsOwnLevelWrites(t *testing.T) {
	written := 0
	for seed := range int64(40) {
		rnd := rand.New(rand.NewSource(seed))
		l := anyLattice(t, rnd)
		levels := anyLevels(rnd, l.Levels())
		b := bedOf(t, l, levels...)
		for range 500 {
			s := anyStep(rnd, levels, l.Levels())
			var before []string
			for _, d := range b.disks {
				before = append(before, d.Image())
			}
			s.do(b)
			for level, d := range b.disks {
				if d.Image() == before[level] {
					continue
				}
				if s.call != serves || s.of != level || !slices.Contains(levels, level) {
					t.Fatalf("seed %d: %+v writes to the volume of the level %d", seed, s, level)
				}
				written++
			}
		}
	}
	if written < 200 {
		t.Errorf("only %d times something was written", written)
	}
}

// A partition has at most one request, or one reply: whatever is called, as many are taken as were laid down.
func TestOneRequestOrOneReply(t *testing.T) {
	for seed := range int64(40) {
		rnd := rand.New(rand.NewSource(seed))
		l := anyLattice(t, rnd)
		levels := anyLevels(rnd, l.Levels())
		b := bedOf(t, l, levels...)
		open := make([]int, len(levels))
		for range 500 {
			part := rnd.Intn(len(levels))
			switch rnd.Intn(3) {
			case 0:
				e := b.s.Submit(part, anyRequest(rnd, levels[part], l.Levels()))
				if e == api.OK {
					open[part]++
				}
				if e == api.ErrServerBusy && open[part] == 0 {
					t.Fatalf("seed %d: the partition %d has nothing, and is busy", seed, part)
				}
			case 1:
				b.s.Serve(levels[part])
			case 2:
				if _, e := b.s.Reply(part); e == api.OK {
					open[part]--
				}
			}
			if open[part] < 0 || open[part] > 1 {
				t.Fatalf("seed %d: the partition %d has %d", seed, part, open[part])
			}
		}
	}
}
