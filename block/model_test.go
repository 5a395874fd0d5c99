package block_test

import (
	"encoding/binary"
	"hash/crc32"
	"math"
	"math/rand"
	"slices"
	"strconv"
	"testing"

	"castellan/api"
	"castellan/block"
	"castellan/disk"
)

// touch is a block that was read or written, as it was told then.
type touch struct {
	at    int
	data  string
	stamp int
}

// model is chapter 15's words once more: all blocks that were ever read or written, from which the cache is told anew each time.
type model struct {
	disk                *disk.Disk
	first, count, cache int
	touched             []touch
	misses              int
}

func (m *model) clone(d *disk.Disk) *model {
	return &model{d, m.first, m.count, m.cache, slices.Clone(m.touched), m.misses}
}

// held are the cache's blocks: the last ones that were touched, each once.
func (m *model) held() map[int]touch {
	l := map[int]touch{}
	for i := len(m.touched) - 1; i >= 0 && len(l) < m.cache; i-- {
		if _, found := l[m.touched[i].at]; !found {
			l[m.touched[i].at] = m.touched[i]
		}
	}
	return l
}

func (m *model) sector(at int) string {
	return m.disk.Image()[128*(m.first+at):][:128]
}

func (m *model) refused(at int) api.Errno {
	switch {
	case m.disk.Dead():
		return api.ErrDead
	case at < 0 || at > m.count-1:
		return api.ErrBlockAt
	}
	return api.OK
}

func (m *model) read(at int) (string, int, api.Errno) {
	if e := m.refused(at); e != api.OK {
		return "", 0, e
	}
	b, found := m.held()[at]
	if !found {
		m.misses++
		s := []byte(m.sector(at))
		stamp := binary.BigEndian.Uint64(s[120:])
		if binary.BigEndian.Uint32(s[116:]) != crc32.ChecksumIEEE(s[:116]) || stamp > most {
			return "", 0, api.ErrBlockSum
		}
		b = touch{at, string(s[:116]), int(stamp)}
	}
	m.touched = append(m.touched, b)
	return b.data, b.stamp, api.OK
}

func (m *model) stamp(at int) (int, api.Errno) {
	if e := m.refused(at); e != api.OK {
		return 0, e
	}
	stamp := binary.BigEndian.Uint64([]byte(m.sector(at))[120:])
	if stamp > most {
		return 0, api.ErrBlockSum
	}
	return int(stamp), api.OK
}

func (m *model) write(at int, data string, stamp int) api.Errno {
	e := m.refused(at)
	switch {
	case e != api.OK:
		return e
	case len(data) > 116:
		return api.ErrBlockLong
	case stamp < 0 || stamp > most:
		return api.ErrArg
	}
	if e := m.disk.Write(m.first+at, sectorOf(data, uint64(stamp))); e != api.OK {
		return e
	}
	m.touched = append(m.touched, touch{at, full(data), stamp})
	return api.OK
}

func (m *model) barrier() api.Errno {
	return m.disk.Flush(m.first, m.count)
}

// pair is an extent and its model, each on a disk of its own, to which the same is done.
type pair struct {
	t    *testing.T
	what string // what was done so far
	d    *disk.Disk
	v    *block.Dev
	m    *model
}

func pairOf(t *testing.T, image string, first, count, cache int) *pair {
	t.Helper()
	d := diskOf(t, image)
	what := strconv.Itoa(len(image)/128) + " sectors, New " + strconv.Itoa(first) + " " + strconv.Itoa(count) + " " + strconv.Itoa(cache)
	return &pair{t, what, d, devOf(t, d, first, count, cache), &model{diskOf(t, image), first, count, cache, nil, 0}}
}

func (p *pair) clone() *pair {
	d := p.d.Clone()
	return &pair{p.t, p.what + "; Clone", d, p.v.Clone(d), p.m.clone(p.m.disk.Clone())}
}

// both does the same to both disks.
func (p *pair) both(do func(d *disk.Disk) api.Errno) {
	p.t.Helper()
	if e, w := do(p.d), do(p.m.disk); e != w {
		p.t.Fatalf("%s: %d, not %d", p.what, e, w)
	}
}

// hold holds all that can be told without a change.
func (p *pair) hold() {
	p.t.Helper()
	if p.v.Misses() != p.m.misses || p.v.Count() != p.m.count {
		p.t.Fatalf("%s: %d misses, %d blocks, not %d, %d", p.what, p.v.Misses(), p.v.Count(), p.m.misses, p.m.count)
	}
	if p.d.Dead() != p.m.disk.Dead() || p.d.Image() != p.m.disk.Image() || p.d.Safe() != p.m.disk.Safe() || !slices.Equal(p.d.Waiting(), p.m.disk.Waiting()) {
		p.t.Fatalf("%s: the disk is not as it should be", p.what)
	}
}

func (p *pair) read(at int) {
	p.t.Helper()
	p.what += "; Read " + strconv.Itoa(at)
	d, s, e := p.v.Read(at)
	wd, ws, we := p.m.read(at)
	if d != wd || s != ws || e != we {
		p.t.Fatalf("%s: %q, %d, %d, not %q, %d, %d", p.what, d, s, e, wd, ws, we)
	}
	p.hold()
}

func (p *pair) stamp(at int) {
	p.t.Helper()
	p.what += "; Stamp " + strconv.Itoa(at)
	s, e := p.v.Stamp(at)
	ws, we := p.m.stamp(at)
	if s != ws || e != we {
		p.t.Fatalf("%s: %d, %d, not %d, %d", p.what, s, e, ws, we)
	}
	p.hold()
}

func (p *pair) write(at int, data string, stamp int) {
	p.t.Helper()
	p.what += "; Write " + strconv.Itoa(at) + " " + strconv.Quote(data[:min(len(data), 4)]) + " " + strconv.Itoa(stamp)
	if e, w := p.v.Write(at, data, stamp), p.m.write(at, data, stamp); e != w {
		p.t.Fatalf("%s: %d, not %d", p.what, e, w)
	}
	p.hold()
}

func (p *pair) barrier() {
	p.t.Helper()
	p.what += "; Barrier"
	if e, w := p.v.Barrier(), p.m.barrier(); e != w {
		p.t.Fatalf("%s: %d, not %d", p.what, e, w)
	}
	p.hold()
}

func (p *pair) arm(n int, choices []int) {
	p.t.Helper()
	p.what += "; Arm " + strconv.Itoa(n)
	p.both(func(d *disk.Disk) api.Errno { return d.Arm(n, choices) })
}

func (p *pair) crash(choices []int) {
	p.t.Helper()
	p.what += "; Crash"
	p.both(func(d *disk.Disk) api.Errno { return d.Crash(choices) })
}

func (p *pair) revive() {
	p.t.Helper()
	p.what += "; Revive"
	p.both(func(d *disk.Disk) api.Errno { d.Revive(); return api.OK })
}

// rowsOf goes through all rows of n calls of a few, on from a state.
func rowsOf(p *pair, n int) {
	if n == 0 {
		return
	}
	for call := range 11 {
		q := p.clone()
		switch {
		case call < 4:
			q.read(call)
		case call < 8:
			q.write(call-4, strconv.Itoa(n), n)
		case call == 8:
			q.stamp(1)
		case call == 9:
			q.barrier()
		default:
			q.write(0, "torn", -1)
		}
		rowsOf(q, n-1)
	}
}

// All rows of five calls on four blocks, of which one can't be read, and a cache of fewer.
func TestAllShortRows(t *testing.T) {
	image := sectorOf("a", 1) + sectorOf("b", 2) + unsummed(3) + sectorOf("c", 4)
	for cache := range 4 {
		rowsOf(pairOf(t, image, 0, 4, cache), 4)
	}
	rowsOf(pairOf(t, image, 0, 4, 2), 5)
}

// anyStamp is one by chance, of which some are none.
func anyStamp(rnd *rand.Rand) int {
	switch rnd.Intn(10) {
	case 0:
		return noStamps[rnd.Intn(len(noStamps))]
	case 1, 2, 3:
		return stamps[rnd.Intn(len(stamps))]
	}
	return rnd.Intn(1000)
}

// anyLength is one of data, of which some are too long.
func anyLength(rnd *rand.Rand) int {
	switch rnd.Intn(12) {
	case 0:
		return 117 + rnd.Intn(20)
	case 1:
		return 116
	case 2:
		return 0
	}
	return rnd.Intn(117)
}

// anyPlace is a block of so many, or one just beyond, or far from them.
func anyPlace(rnd *rand.Rand, count int) int {
	if rnd.Intn(60) == 0 {
		return []int{math.MinInt, math.MaxInt}[rnd.Intn(2)]
	}
	if rnd.Intn(3) == 0 { // some blocks are more often meant than others
		return rnd.Intn(min(count, 3))
	}
	return rnd.Intn(count+2) - 1
}

// anyImage is a disk of which some sectors are no blocks.
func anyImage(rnd *rand.Rand, sectors int) string {
	s := ""
	for range sectors {
		switch rnd.Intn(6) {
		case 0:
			s += unsummed(rnd.Uint64() >> rnd.Intn(64))
		case 1:
			s += noughts(128)
		case 2:
			s += sectorOf(anyBytes(rnd, 116), rnd.Uint64()>>rnd.Intn(3))
		default:
			s += sectorOf(anyBytes(rnd, rnd.Intn(117)), uint64(rnd.Intn(1000)))
		}
	}
	return s
}

func anyChoices(rnd *rand.Rand) []int {
	l := make([]int, rnd.Intn(24))
	for i := range l {
		l[i] = []int{0, 128, rnd.Intn(130)}[rnd.Intn(3)]
	}
	return l
}

// anyCall does one by chance.
func (p *pair) anyCall(rnd *rand.Rand) {
	at := anyPlace(rnd, p.m.count)
	switch n := rnd.Intn(40); {
	case n < 16:
		p.read(at)
	case n < 20:
		p.stamp(at)
	case n < 33:
		p.write(at, anyBytes(rnd, anyLength(rnd)), anyStamp(rnd))
	case n < 36:
		p.barrier()
	case n == 36:
		p.arm(rnd.Intn(6), anyChoices(rnd))
	case n == 37 && rnd.Intn(3) == 0:
		p.crash(anyChoices(rnd))
	case n > 37:
		p.revive()
	}
}

func TestLongRuns(t *testing.T) {
	for seed := range int64(300) {
		rnd := rand.New(rand.NewSource(seed))
		sectors := 1 + rnd.Intn(24)
		first := rnd.Intn(sectors)
		p := pairOf(t, anyImage(rnd, sectors), first, 1+rnd.Intn(sectors-first), rnd.Intn(17))
		var left []*pair
		for range 200 {
			if rnd.Intn(40) == 0 {
				left = append(left, p)
				p = p.clone()
			}
			p.anyCall(rnd)
		}
		for _, q := range left { // what was done to the clone has changed nothing here
			q.hold()
			for at := range q.m.count {
				q.read(at)
			}
		}
	}
}

// The cache changes nothing but Misses, as long as the power does not go.
func TestCacheChangesNothingElse(t *testing.T) {
	for seed := range int64(100) {
		rnd := rand.New(rand.NewSource(seed))
		image := anyImage(rnd, 12)
		bare, d := diskOf(t, image), diskOf(t, image)
		v, w := devOf(t, bare, 2, 8, 0), devOf(t, d, 2, 8, 1+rnd.Intn(16))
		for range 200 {
			at := anyPlace(rnd, 8)
			switch rnd.Intn(4) {
			case 0, 1:
				data, stamp, e := v.Read(at)
				wantRead(t, w, at, data, stamp, e)
			case 2:
				data, stamp := anyBytes(rnd, anyLength(rnd)), anyStamp(rnd)
				wantWrite(t, w, at, data, stamp, v.Write(at, data, stamp))
			case 3:
				stamp, e := v.Stamp(at)
				wantStamp(t, w, at, stamp, e)
			}
			if w.Misses() > v.Misses() || d.Image() != bare.Image() {
				t.Fatalf("seed %d: %d misses, %d without a cache", seed, w.Misses(), v.Misses())
			}
		}
	}
}
