package server_test

import (
	"math/rand"
	"slices"
	"strconv"
	"strings"
	"testing"

	"castellan/api"
	"castellan/disk"
	"castellan/lattice"
	"castellan/volume"
)

// A model is a second server, by the chapter's words: one list of all requests, in the order in which they came.
type model struct {
	lattice *lattice.Lattice
	levels  []int
	volumes []*volume.Volume
	list    []submitted
	replies map[int]string
}

type submitted struct {
	part    int
	request string
}

func (m *model) has(part int) bool { return part >= 0 && part < len(m.levels) }

func (m *model) submit(part int, request string) api.Errno {
	_, replied := m.replies[part]
	waits := slices.ContainsFunc(m.list, func(x submitted) bool { return x.part == part })
	switch {
	case !m.has(part):
		return api.ErrArg
	case len(request) > 255:
		return api.ErrServerText
	case replied || waits:
		return api.ErrServerBusy
	}
	m.list = append(m.list, submitted{part, request})
	return api.OK
}

func (m *model) reply(part int) (string, api.Errno) {
	s, found := m.replies[part]
	switch {
	case !m.has(part):
		return "", api.ErrArg
	case !found:
		return "", api.ErrServerNone
	}
	delete(m.replies, part)
	return s, api.OK
}

func (m *model) waiting(level int) int {
	n := 0
	for _, x := range m.list {
		if m.levels[x.part] == level {
			n++
		}
	}
	return n
}

func (m *model) serve(level int) (bool, api.Errno) {
	i := slices.IndexFunc(m.list, func(x submitted) bool { return m.levels[x.part] == level })
	if i < 0 {
		return false, api.OK
	}
	x := m.list[i]
	m.list = slices.Delete(m.list, i, i+1)
	e, s := m.outcome(x.request, level)
	if e == api.ErrDead {
		return false, e
	}
	if e != api.OK {
		s = ""
	}
	m.replies[x.part] = told(e) + s
	return true, api.OK
}

// parts cuts a request: its path, and what is behind that; false, if the path is not all there.
func parts(request string) (path, behind string, is bool) {
	if len(request) < 3 || len(request) < 3+int(request[2]) {
		return "", "", false
	}
	end := 3 + int(request[2])
	return request[3:end], request[end:], true
}

// fits tells whether what is behind a path is what a kind has there.
func fits(kind byte, behind string) bool {
	n := len(behind)
	switch kind {
	case 1, 2, 4, 8, 9:
		return n == 0
	case 3:
		return n >= 2
	case 5:
		return n >= 1 && n == 1+int(behind[0])
	case 6:
		return n == 4
	case 7:
		return n == 2
	}
	return false
}

// number is one of two bytes at a place, 0 where it is not there.
func number(s string, at int) int {
	if len(s) < at+2 {
		return 0
	}
	return int(s[at])*256 + int(s[at+1])
}

func (m *model) outcome(request string, own int) (api.Errno, string) {
	path, behind, is := parts(request)
	if !is || !fits(request[0], behind) {
		return api.ErrServerText, ""
	}
	kind, level := request[0], int(request[1])
	looks := kind >= 6 && kind <= 8
	if level >= m.lattice.Levels() || !looks && level != own || looks && !m.lattice.Flows(level, own) || m.volumes[level] == nil {
		return api.ErrServerLevel, ""
	}
	v := m.volumes[level]
	switch kind {
	case 1:
		return v.Mkdir(path), ""
	case 2:
		return v.Create(path), ""
	case 3:
		return v.Write(path, number(behind, 0), behind[2:]), ""
	case 4:
		return v.Remove(path), ""
	case 5:
		return v.Rename(path, behind[1:]), ""
	case 9:
		return v.Sync(), ""
	}
	return looked(v, kind, path, number(behind, 0), number(behind, 2))
}

// looked is what the kinds that only look tell.
func looked(v *volume.Volume, kind byte, path string, at, n int) (api.Errno, string) {
	switch kind {
	case 6:
		s, e := v.Read(path, at, n)
		return e, s
	case 7:
		names, e := v.List(path)
		s := ""
		for i, name := range names {
			if i < at {
				continue
			}
			if len(s+name) >= 200 {
				break
			}
			s += name + "\n"
		}
		return e, s
	}
	isDir, size, e := v.Stat(path)
	if isDir {
		return e, "\x02" + num(size)
	}
	return e, "\x01" + num(size)
}

// Both are a server and a model, each on volumes of its own, that are held against each other.
type both struct {
	t     *testing.T
	b     *bed
	m     *model
	disks []*disk.Disk // the model's
	did   []string
}

// bothOf has a volume at each level but some.
func bothOf(t *testing.T, l *lattice.Lattice, without []int, levels ...int) *both {
	t.Helper()
	x := &both{t: t, b: &bed{t: t, levels: levels}, m: &model{lattice: l, levels: levels, replies: map[int]string{}}}
	for level := range l.Levels() {
		d := newDisk(t)
		x.b.disks, x.disks = append(x.b.disks, d), append(x.disks, d.Clone())
		var v, w *volume.Volume
		if !slices.Contains(without, level) {
			v, w = volumeOn(t, d), volumeOn(t, x.disks[level])
		}
		x.b.volumes, x.m.volumes = append(x.b.volumes, v), append(x.m.volumes, w)
	}
	x.b.s = serverOf(t, l, levels, x.b.volumes)
	return x
}

func (x *both) note(words ...any) {
	s := ""
	for _, w := range words {
		switch w := w.(type) {
		case string:
			s += " " + strconv.Quote(w)
		case int:
			s += " " + strconv.Itoa(w)
		}
	}
	x.did = append(x.did[max(0, len(x.did)-8):], s)
}

func (x *both) submit(part int, request string) {
	x.t.Helper()
	x.note("Submit", part, request)
	if got, e := x.b.s.Submit(part, request), x.m.submit(part, request); got != e {
		x.t.Fatalf("%s: %d, not %d", x.did, got, e)
	}
}

func (x *both) serve(level int) {
	x.t.Helper()
	x.note("Serve", level)
	got, ge := x.b.s.Serve(level)
	if done, e := x.m.serve(level); got != done || ge != e {
		x.t.Fatalf("%s: %v, %d, not %v, %d", x.did, got, ge, done, e)
	}
}

func (x *both) reply(part int) string {
	x.t.Helper()
	x.note("Reply", part)
	got, ge := x.b.s.Reply(part)
	if s, e := x.m.reply(part); got != s || ge != e {
		x.t.Fatalf("%s: %q, %d, not %q, %d", x.did, got, ge, s, e)
	}
	return got
}

// waits wants as many that wait.
func (x *both) waits() {
	x.t.Helper()
	for level := -1; level <= x.m.lattice.Levels(); level++ {
		if got, n := x.b.s.Waiting(level), x.m.waiting(level); got != n {
			x.t.Fatalf("%s: Waiting(%d): %d, not %d", x.did, level, got, n)
		}
	}
}

// sameDisks wants disks that are alike.
func (x *both) sameDisks() {
	x.t.Helper()
	for level, d := range x.disks {
		o := x.b.disks[level]
		if d.Image() != o.Image() || d.Safe() != o.Safe() || d.Dead() != o.Dead() {
			x.t.Fatalf("%s: another disk of the level %d", x.did, level)
		}
	}
}

// All rows of so many calls of three partitions, of which two are of one level: what is told tells whose request was done.
func TestAllShortRows(t *testing.T) {
	const length = 6
	requests := []string{"", stat(0, "/"), mkdir(9, "/"), noughts(256)}
	steps := []func(x *both){
		func(x *both) { x.submit(0, requests[0]) },
		func(x *both) { x.submit(1, requests[1]) },
		func(x *both) { x.submit(2, requests[2]) },
		func(x *both) { x.submit(0, requests[3]) },
		func(x *both) { x.serve(0) },
		func(x *both) { x.serve(1) },
		func(x *both) { x.reply(0) },
		func(x *both) { x.reply(1) },
		func(x *both) { x.reply(2) },
	}
	l, levels := chain(t, 2), []int{0, 0, 1}
	rows := 1
	for range length {
		rows *= len(steps)
	}
	for row := range rows {
		// Rows of which the first call is a refused one are rows that are shorter.
		if row%len(steps) > 2 {
			continue
		}
		x := &both{t: t, b: &bed{t: t, s: bare(t, l, levels...)}, m: &model{lattice: l, levels: levels, volumes: make([]*volume.Volume, 2), replies: map[int]string{}}}
		for range length {
			steps[row%len(steps)](x)
			row /= len(steps)
		}
		x.waits()
	}
}

// anyOf is one of a list by chance.
func anyOf[T any](rnd *rand.Rand, l ...T) T { return l[rnd.Intn(len(l))] }

func anyPath(rnd *rand.Rand) string {
	if rnd.Intn(30) == 0 {
		return anyOf(rnd, "", "x", "/X", "/a/", "/..", "/\x00", strings.Repeat("/a", 25))
	}
	if rnd.Intn(8) == 0 {
		return "/"
	}
	s := ""
	for range anyOf(rnd, 1, 1, 2) {
		long := "name-of-12-" + string(rune('a'+rnd.Intn(26)))
		s += "/" + anyOf(rnd, "a", "a", "b", long, long, long)
	}
	return s
}

// anyRequest is mostly one that may be, of a partition's own level or of another one.
func anyRequest(rnd *rand.Rand, own, levels int) string {
	level := own
	if rnd.Intn(3) == 0 {
		level = rnd.Intn(levels + 1)
	}
	path, at := anyPath(rnd), anyOf(rnd, 0, 0, 0, 0, 1, 3, 256, rnd.Intn(1<<16))
	data := strings.Repeat(anyOf(rnd, "x", "\x00", "keep"), rnd.Intn(50))
	s := ""
	switch rnd.Intn(16) {
	case 0, 1, 2:
		s = mkdir(level, path)
	case 3, 4, 5:
		s = create(level, path)
	case 6, 7:
		s = write(level, path, at, data)
	case 8:
		s = remove(level, path)
	case 9:
		s = rename(level, path, anyPath(rnd))
	case 10, 11:
		s = read(level, path, at, anyOf(rnd, 0, 1, 7, 300, 65535))
	case 12, 13:
		s = list(level, anyOf(rnd, path, "/"), at)
	case 14:
		s = stat(level, path)
	case 15:
		s = sync(level, path)
	}
	switch rnd.Intn(30) {
	case 0:
		s = s[:rnd.Intn(len(s))]
	case 1:
		s += anyOf(rnd, "\x00", "x", noughts(200), noughts(256))
	case 2:
		i := rnd.Intn(len(s))
		s = s[:i] + string([]byte{byte(rnd.Intn(256))}) + s[i+1:]
	}
	return s
}

// anyLattice is a chain, a diamond, or three levels beside one another between two.
func anyLattice(t *testing.T, rnd *rand.Rand) *lattice.Lattice {
	t.Helper()
	switch rnd.Intn(4) {
	case 0:
		return diamond(t)
	case 1:
		return latticeOf(t, 5, [2]int{4, 0}, [2]int{4, 1}, [2]int{4, 3}, [2]int{0, 2}, [2]int{1, 2}, [2]int{3, 2})
	case 2:
		return latticeOf(t, 3, [2]int{2, 1}, [2]int{1, 0})
	}
	return chain(t, 1+rnd.Intn(8))
}

func anyLevels(rnd *rand.Rand, n int) []int {
	levels := make([]int, 1+rnd.Intn(8))
	for i := range levels {
		levels[i] = rnd.Intn(n)
	}
	return levels
}

func TestLongRuns(t *testing.T) {
	const steps = 2000
	told := map[byte]int{}
	replied, longest, dead := 0, 0, 0
	for seed := range int64(60) {
		rnd := rand.New(rand.NewSource(seed))
		l := anyLattice(t, rnd)
		n := l.Levels()
		var without []int
		if n > 1 && rnd.Intn(2) == 0 {
			without = append(without, rnd.Intn(n))
		}
		levels := anyLevels(rnd, n)
		x := bothOf(t, l, without, levels...)
		for step := range steps {
			part := rnd.Intn(len(levels)+2) - 1
			own := 0
			if part >= 0 && part < len(levels) {
				own = levels[part]
			}
			// What comes next of a partition as often as what may come of it.
			kind := rnd.Intn(6)
			if kind == 0 || kind >= 3 {
				x.submit(part, anyRequest(rnd, own, n))
			}
			if kind == 1 || kind >= 3 {
				x.serve(anyOf(rnd, own, own, own, rnd.Intn(n+2)-1))
			}
			if kind >= 2 {
				if s := x.reply(part); s != "" {
					told[s[0]]++
					replied++
					longest = max(longest, len(s))
				}
			}
			if step == steps*3/4 && seed%2 == 0 {
				level, change := anyOf(rnd, levels...), 1+rnd.Intn(20)
				want(t, "Arm", x.b.disks[level].Arm(change, nil), api.OK)
				want(t, "Arm", x.disks[level].Arm(change, nil), api.OK)
			}
			x.waits()
			if step%10 == 0 {
				x.sameDisks()
			}
		}
		x.sameDisks()
		for _, d := range x.disks {
			if d.Dead() {
				dead++
			}
		}
	}
	for _, e := range []api.Errno{api.OK, api.ErrArg, api.ErrVolumePath, api.ErrVolumeNone, api.ErrVolumeDone, api.ErrVolumeKind, api.ErrVolumeBusy, api.ErrServerText, api.ErrServerLevel} {
		if told[byte(e)] < 20 {
			t.Errorf("the error %d was told only %d times", e, told[byte(e)])
		}
	}
	if replied < 10000 || longest < 190 || dead < 10 {
		t.Errorf("%d replies of up to %d bytes, %d dead", replied, longest, dead)
	}
}
