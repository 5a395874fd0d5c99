package volume_test

import (
	"math/rand"
	"path"
	"slices"
	"strconv"
	"strings"
	"testing"

	"castellan/api"
	"castellan/disk"
	"castellan/journal"
	"castellan/volume"
)

// A model is a second volume, by the chapter's words: a list of entries, whose image is laid on a journal of its own.
type model struct {
	disk    *disk.Disk
	journal *journal.Journal
	l       []api.Entry
	dead    bool
}

// find is where something stands: -1, if nothing does.
func (m *model) find(p string) int {
	return slices.IndexFunc(m.l, func(x api.Entry) bool { return x.Path == p })
}

// what stands at a path: nothing, a file, or a directory.
func (m *model) what(p string) string {
	switch i := m.find(p); {
	case p == "/", i >= 0 && m.l[i].Dir:
		return "directory"
	case i >= 0:
		return "file"
	}
	return "nothing"
}

// inside are the last names of what is in a directory.
func (m *model) inside(p string) []string {
	var l []string
	for _, x := range m.l {
		if path.Dir(x.Path) == p {
			l = append(l, path.Base(x.Path))
		}
	}
	slices.Sort(l)
	return l
}

func (m *model) image() string {
	var l []string
	for _, x := range m.l {
		if x.Dir {
			l = append(l, dirOf(x.Path))
		} else {
			l = append(l, fileOf(x.Path, x.Data))
		}
	}
	return imageOf(l...)
}

// becomes makes others of its entries.
func (m *model) becomes(l []api.Entry) api.Errno {
	slices.SortFunc(l, func(a, b api.Entry) int { return strings.Compare(a.Path, b.Path) })
	n := 116 * m.journal.Cells()
	old, after := m.image(), (&model{l: l}).image()
	if len(after) > n {
		return api.ErrVolumeFull
	}
	old += noughts(n - len(old))
	laid := after + noughts(n-len(after))
	var changes []api.Write
	for at := 0; at < n; at += 116 {
		if old[at:at+116] != laid[at:at+116] {
			changes = append(changes, api.Write{Cell: at / 116, Data: laid[at : at+116]})
		}
	}
	e := m.journal.Commit(changes)
	if e == api.OK {
		m.l = l
	}
	m.dead = e == api.ErrDead
	return e
}

// needsPlace is why nothing new may stand at a path.
func (m *model) needsPlace(p string) api.Errno {
	if m.what(p) != "nothing" {
		return api.ErrVolumeDone
	}
	switch m.what(path.Dir(p)) {
	case "nothing":
		return api.ErrVolumeNone
	case "file":
		return api.ErrVolumeKind
	}
	return api.OK
}

func (m *model) makes(p string, dir bool) api.Errno {
	if e := m.needsPlace(p); e != api.OK {
		return e
	}
	return m.becomes(append(slices.Clone(m.l), api.Entry{Path: p, Dir: dir}))
}

// needsFile is why a file's call is refused.
func (m *model) needsFile(p string) api.Errno {
	switch m.what(p) {
	case "nothing":
		return api.ErrVolumeNone
	case "directory":
		return api.ErrVolumeKind
	}
	return api.OK
}

func (m *model) writes(p string, at int, data string) api.Errno {
	if e := m.needsFile(p); e != api.OK {
		return e
	}
	l := slices.Clone(m.l)
	x := &l[m.find(p)]
	if at < 0 || at > len(x.Data) {
		return api.ErrArg
	}
	if at+len(data) > 1024 {
		return api.ErrVolumeLong
	}
	b := []byte(x.Data)
	for i := range len(data) {
		if at+i < len(b) {
			b[at+i] = data[i]
		} else {
			b = append(b, data[i])
		}
	}
	x.Data = string(b)
	return m.becomes(l)
}

func (m *model) removes(p string) api.Errno {
	switch {
	case m.what(p) == "nothing":
		return api.ErrVolumeNone
	case p == "/":
		return api.ErrVolumeKind
	case len(m.inside(p)) > 0:
		return api.ErrVolumeBusy
	}
	i := m.find(p)
	return m.becomes(slices.Delete(slices.Clone(m.l), i, i+1))
}

func (m *model) renames(from, to string) api.Errno {
	if e := m.needsFile(from); e != api.OK {
		return e
	}
	if e := m.needsPlace(to); e != api.OK {
		return e
	}
	l := slices.Clone(m.l)
	l[m.find(from)].Path = to
	return m.becomes(l)
}

// A call is one of a volume's.
type call struct {
	name, path, to, data string
	at                   int
}

func (c call) String() string {
	return c.name + " " + strconv.Quote(c.path) + " " + strconv.Quote(c.to) + " " + strconv.Itoa(c.at) + " " + strconv.Quote(c.data)
}

// on does it on a volume.
func (c call) on(v *volume.Volume) api.Errno {
	switch c.name {
	case "Mkdir":
		return v.Mkdir(c.path)
	case "Create":
		return v.Create(c.path)
	case "Write":
		return v.Write(c.path, c.at, c.data)
	case "Remove":
		return v.Remove(c.path)
	case "Rename":
		return v.Rename(c.path, c.to)
	}
	return v.Sync()
}

// onModel does it on a model.
func (c call) onModel(m *model) api.Errno {
	if m.dead {
		return api.ErrDead
	}
	if c.name == "Sync" {
		e := m.journal.Sync()
		m.dead = e != api.OK
		return e
	}
	if !isPath(c.path) || c.name == "Rename" && !isPath(c.to) {
		return api.ErrVolumePath
	}
	switch c.name {
	case "Write":
		return m.writes(c.path, c.at, c.data)
	case "Remove":
		return m.removes(c.path)
	case "Rename":
		return m.renames(c.path, c.to)
	}
	return m.makes(c.path, c.name == "Mkdir")
}

// isPath tells whether a text is a path, by one way more.
func isPath(s string) bool {
	if s == "/" {
		return true
	}
	if s == "" || len(s) > 48 || path.Clean(s) != s || s[0] != '/' {
		return false
	}
	n := 0
	for _, b := range []byte(s) {
		if n++; b == '/' {
			n = 0
		}
		if n > 12 || !strings.Contains("abcdefghijklmnopqrstuvwxyz0123456789._-/", string(rune(b))) {
			return false
		}
	}
	return true
}

// A pair is a volume and a model, that are held against each other.
type pair struct {
	t       *testing.T
	disk    *disk.Disk
	journal *journal.Journal
	v       *volume.Volume
	m       *model
	did     []string
}

func pairOf(t *testing.T, image string, area int) *pair {
	t.Helper()
	p := &pair{t: t, m: &model{}}
	for i, at := range []**disk.Disk{&p.disk, &p.m.disk} {
		d, e := disk.New(image)
		want(t, "disk.New", e, api.OK)
		j, e := journal.Open(devOf(t, d), area)
		want(t, "journal.Open", e, api.OK)
		*at = d
		*[]**journal.Journal{&p.journal, &p.m.journal}[i] = j
	}
	v, e := volume.Open(p.journal)
	want(t, "Open", e, api.OK)
	p.v, p.m.l = v, v.Entries()
	return p
}

func (p *pair) clone() *pair {
	c := &pair{t: p.t, disk: p.disk.Clone(), did: slices.Clone(p.did)}
	c.journal = p.journal.Clone(devOf(p.t, c.disk))
	c.v = p.v.Clone(c.journal)
	d := p.m.disk.Clone()
	c.m = &model{d, p.m.journal.Clone(devOf(p.t, d)), slices.Clone(p.m.l), p.m.dead}
	return c
}

// do makes a call of both, and holds what they are then.
func (p *pair) do(c call) api.Errno {
	p.t.Helper()
	p.did = append(p.did, c.String())
	e := c.on(p.v)
	if w := c.onModel(p.m); e != w {
		p.t.Fatalf("%q: %d, not %d", p.did, e, w)
	}
	if !slices.Equal(p.v.Entries(), p.m.l) {
		p.t.Fatalf("%q: %+v, not %+v", p.did, p.v.Entries(), p.m.l)
	}
	if free := 116*p.journal.Cells() - len(p.m.image()); p.v.Free() != free || p.v.Dead() != p.m.dead {
		p.t.Fatalf("%q: free %d, dead %v, not %d, %v", p.did, p.v.Free(), p.v.Dead(), free, p.m.dead)
	}
	if p.disk.Image() != p.m.disk.Image() || p.disk.Safe() != p.m.disk.Safe() || !slices.Equal(p.disk.Waiting(), p.m.disk.Waiting()) {
		p.t.Fatalf("%q: another disk", p.did)
	}
	return e
}

// ask reads what stands at a path from both.
func (p *pair) ask(s string, at, n int) {
	p.t.Helper()
	dead, what := p.m.dead, p.m.what(s)
	var inside []string
	data, e := "", p.m.needsFile(s)
	if e == api.OK {
		data = p.m.l[p.m.find(s)].Data
	}
	size := len(data)
	if what == "directory" {
		inside = p.m.inside(s)
		size = len(inside)
	}
	if e == api.OK && (at < 0 || at > len(data) || n < 0) {
		e = api.ErrArg
	}
	there, isDir := api.OK, api.OK
	switch {
	case what == "nothing":
		there, isDir = api.ErrVolumeNone, api.ErrVolumeNone
	case what == "file":
		isDir = api.ErrVolumeKind
	}
	for _, x := range []struct {
		is bool
		e  api.Errno
	}{{!isPath(s), api.ErrVolumePath}, {dead, api.ErrDead}} {
		if x.is {
			e, there, isDir, what, size, inside = x.e, x.e, x.e, "nothing", 0, nil
		}
	}
	if e == api.OK {
		data = data[at:]
		data = data[:min(n, len(data))]
	} else {
		data = ""
	}
	wantRead(p.t, p.v, s, at, n, data, e)
	wantList(p.t, p.v, s, isDir, inside...)
	wantStat(p.t, p.v, s, what == "directory", size, there)
}

// calls are all of some paths and places.
func calls(paths []string, data []string, places []int) []call {
	l := []call{{name: "Sync"}}
	for _, s := range paths {
		for _, name := range []string{"Mkdir", "Create", "Remove"} {
			l = append(l, call{name: name, path: s})
		}
		for _, to := range paths {
			l = append(l, call{name: "Rename", path: s, to: to})
		}
		for _, at := range places {
			for _, x := range data {
				l = append(l, call{name: "Write", path: s, at: at, data: x})
			}
		}
	}
	return l
}

// rows does all rows of so many calls, each from where those ahead of it led.
func rows(p *pair, l []call, paths []string, n int) {
	for _, s := range paths {
		p.ask(s, 1, 2)
	}
	if n == 0 {
		return
	}
	for _, c := range l {
		q := p.clone()
		if e := q.do(c); e == api.OK && c.name != "Sync" || n == 1 {
			rows(q, l, paths, n-1)
		}
	}
}

// newImage is that of a new journal.
func newImage(t *testing.T, cells int) string {
	d, _ := journalOf(t, areaOf(cells), cells, "")
	return d.Image()
}

func TestAllShortRows(t *testing.T) {
	paths := []string{"/", "/a", "/b", "/a/a", "/a/b", "/a/a/a", "a"}
	l := calls(paths, []string{"x", strings.Repeat("y", 103)}, []int{0, 1})
	rows(pairOf(t, newImage(t, 1), 4), l, paths, 3)
}

// anyOf is one of a list by chance.
func anyOf[T any](rnd *rand.Rand, l []T) T { return l[rnd.Intn(len(l))] }

// anyPath is mostly one of few names.
func anyPath(rnd *rand.Rand) string {
	switch rnd.Intn(40) {
	case 0:
		return anyOf(rnd, wrong)
	case 1:
		return "/"
	}
	s := ""
	for range 1 + rnd.Intn(4) {
		s += "/" + anyOf(rnd, []string{"a", "a", "a", "b", "a-", "a.b", "twelve-bytes"})
	}
	return s
}

func anyData(rnd *rand.Rand) string {
	n := anyOf(rnd, []int{0, 1, 5, 115, 116, 117, 300, 1023, 1024, 1025})
	b := make([]byte, rnd.Intn(n+1))
	for i := range b {
		b[i] = "\x00\x01ab"[rnd.Intn(4)]
	}
	return string(b)
}

func (m *model) anyCall(rnd *rand.Rand) call {
	c := call{name: anyOf(rnd, []string{"Mkdir", "Mkdir", "Create", "Create", "Create", "Write", "Write", "Write", "Remove", "Rename", "Sync"}), path: anyPath(rnd), to: anyPath(rnd), data: anyData(rnd)}
	if len(m.l) > 0 && rnd.Intn(3) > 0 && c.name != "Mkdir" && c.name != "Create" {
		x := anyOf(rnd, m.l)
		c.path = x.Path
		c.at = anyOf(rnd, []int{-1, 0, 0, rnd.Intn(len(x.Data) + 1), len(x.Data), len(x.Data) + 1})
	}
	return c
}

func TestLongRuns(t *testing.T) {
	told := map[api.Errno]int{}
	for seed := range int64(60) {
		rnd := rand.New(rand.NewSource(seed))
		cells := 1 + rnd.Intn(40)
		area := areaOf(cells) + rnd.Intn(60)
		d, _ := journalOf(t, area, cells, "")
		p := pairOf(t, d.Image(), area)
		for n := range 400 {
			if n%100 == 99 {
				o := p
				p = p.clone()
				o.do(o.m.anyCall(rnd))
			}
			if n == 300 && seed%3 == 0 {
				k := 1 + rnd.Intn(100)
				want(t, "Arm", p.disk.Arm(k, nil), api.OK)
				want(t, "Arm", p.m.disk.Arm(k, nil), api.OK)
			}
			told[p.do(p.m.anyCall(rnd))]++
			p.ask(p.m.anyCall(rnd).path, rnd.Intn(130)-1, rnd.Intn(130)-1)
			p.did = p.did[max(0, len(p.did)-5):]
		}
		if !p.v.Dead() {
			wantReopened(t, p.journal, p.v)
		}
	}
	for _, e := range []api.Errno{api.OK, api.ErrArg, api.ErrDead, api.ErrVolumePath, api.ErrVolumeNone, api.ErrVolumeDone, api.ErrVolumeKind, api.ErrVolumeFull, api.ErrVolumeLong, api.ErrVolumeBusy} {
		if told[e] < 20 {
			t.Errorf("the error %d only %d times", e, told[e])
		}
	}
}

// isTree tells whether entries may be a volume's: they rise, and the parent of each is a directory.
func isTree(l []api.Entry) bool {
	for i, x := range l {
		up := slices.IndexFunc(l, func(o api.Entry) bool { return o.Path == path.Dir(x.Path) })
		if !isPath(x.Path) || x.Path == "/" || i > 0 && l[i-1].Path >= x.Path || len(x.Data) > 1024 || x.Dir && x.Data != "" {
			return false
		}
		if path.Dir(x.Path) != "/" && (up < 0 || !l[up].Dir) {
			return false
		}
	}
	return true
}

// TestOpenOfAnyImages lays entries by chance, of which some may not be, and holds what is opened against the words.
func TestOpenOfAnyImages(t *testing.T) {
	opens := 0
	for seed := range int64(6000) {
		rnd := rand.New(rand.NewSource(seed))
		m := &model{}
		for range rnd.Intn(6) {
			x := api.Entry{Path: anyPath(rnd), Dir: rnd.Intn(2) == 0}
			if rnd.Intn(2) == 0 {
				x.Path = "/" + anyOf(rnd, []string{"a", "b", "a/b", "a/c", "a-"})
			}
			if rnd.Intn(3) == 0 && !x.Dir {
				x.Data = anyData(rnd)
			}
			m.l = append(m.l, x)
		}
		if rnd.Intn(4) > 0 {
			slices.SortFunc(m.l, func(a, b api.Entry) int { return strings.Compare(a.Path, b.Path) })
		}
		image := []byte(m.image())
		changed := rnd.Intn(4) == 0
		if changed {
			image[rnd.Intn(len(image))] ^= 1 << rnd.Intn(8)
		}
		if len(image) > 116*40 {
			continue
		}
		d, j := journalOf(t, 43, 40, string(image))
		v, e := volume.Open(j)
		switch {
		case changed && e == api.OK:
			// Whatever it reads as: its image are those bytes.
			other := &model{l: v.Entries()}
			if !isTree(other.l) || strings.TrimRight(other.image(), "\x00") != strings.TrimRight(string(image), "\x00") {
				t.Fatalf("seed %d: %q is opened as %+v", seed, image, other.l)
			}
		case changed:
			want(t, "Open", e, api.ErrVolumeForm)
		case isTree(m.l):
			want(t, "Open", e, api.OK)
			wantEntries(t, v, m.l...)
			wantReopened(t, j, reopened(t, d.Image(), 40))
			opens++
		default:
			want(t, "Open of no tree", e, api.ErrVolumeForm)
		}
	}
	if opens < 500 {
		t.Errorf("only %d open", opens)
	}
}
