package server_test

import (
	"math"
	"slices"
	"strings"
	"testing"
	"unsafe"

	"castellan/api"
	"castellan/block"
	"castellan/disk"
	"castellan/journal"
	"castellan/lattice"
	"castellan/server"
	"castellan/volume"
)

func noughts(n int) string { return strings.Repeat("\x00", n) }

// num is a number's two bytes, the highest first.
func num(n int) string { return string([]byte{byte(n / 256), byte(n % 256)}) }

// short is a text behind one byte that says how long it is.
func short(s string) string { return string([]byte{byte(len(s))}) + s }

// head is a request up to its path.
func head(kind, level int, path string) string {
	return string([]byte{byte(kind), byte(level)}) + short(path)
}

func mkdir(level int, path string) string  { return head(1, level, path) }
func create(level int, path string) string { return head(2, level, path) }
func write(level int, path string, at int, data string) string {
	return head(3, level, path) + num(at) + data
}
func remove(level int, path string) string     { return head(4, level, path) }
func rename(level int, from, to string) string { return head(5, level, from) + short(to) }
func read(level int, path string, at, n int) string {
	return head(6, level, path) + num(at) + num(n)
}
func list(level int, path string, at int) string { return head(7, level, path) + num(at) }
func stat(level int, path string) string         { return head(8, level, path) }
func sync(level int, path string) string         { return head(9, level, path) }

// ofAllKinds is a request of each kind, of which the path stands first in its order.
func ofAllKinds(level int, path string) []string {
	return []string{mkdir(level, path), create(level, path), write(level, path, 0, "data"), remove(level, path), rename(level, path, "/other"), read(level, path, 0, 9), list(level, path, 0), stat(level, path), sync(level, path)}
}

// ok is a reply without an error; told is one of an error.
func ok(s string) string { return "\x00" + s }

func told(e api.Errno) string { return string([]byte{byte(e)}) }

func want(t *testing.T, what string, got, e api.Errno) {
	t.Helper()
	if got != e {
		t.Fatalf("%s: %d, not %d", what, got, e)
	}
}

func latticeOf(t *testing.T, n int, pairs ...[2]int) *lattice.Lattice {
	t.Helper()
	l, e := lattice.New(n, pairs)
	want(t, "lattice.New", e, api.OK)
	return l
}

// chain is levels of which each flows to the next one.
func chain(t *testing.T, n int) *lattice.Lattice {
	t.Helper()
	var pairs [][2]int
	for level := 1; level < n; level++ {
		pairs = append(pairs, [2]int{level - 1, level})
	}
	return latticeOf(t, n, pairs...)
}

// diamond is four levels, of which 1 and 2 stand beside one another.
func diamond(t *testing.T) *lattice.Lattice {
	t.Helper()
	return latticeOf(t, 4, [2]int{0, 1}, [2]int{0, 2}, [2]int{1, 3}, [2]int{2, 3})
}

// cells are how many a volume of these tests has.
const cells = 20

const area = cells + 3

func devOf(t *testing.T, d *disk.Disk) *block.Dev {
	t.Helper()
	v, e := block.New(d, 0, d.Count(), 4)
	want(t, "block.New", e, api.OK)
	return v
}

// newDisk is one with an empty volume.
func newDisk(t *testing.T) *disk.Disk {
	t.Helper()
	d, e := disk.New(noughts(128 * (area + cells)))
	want(t, "disk.New", e, api.OK)
	_, e = journal.Format(devOf(t, d), area)
	want(t, "Format", e, api.OK)
	return d
}

// volumeOn opens a disk's volume.
func volumeOn(t *testing.T, d *disk.Disk) *volume.Volume {
	t.Helper()
	j, e := journal.Open(devOf(t, d), area)
	want(t, "journal.Open", e, api.OK)
	v, e := volume.Open(j)
	want(t, "volume.Open", e, api.OK)
	return v
}

// A bed is a server, and what it stands on: each level has a volume on a disk of its own.
type bed struct {
	t       *testing.T
	s       *server.Server
	levels  []int // the partitions'
	disks   []*disk.Disk
	volumes []*volume.Volume
}

func bedOf(t *testing.T, l *lattice.Lattice, levels ...int) *bed {
	t.Helper()
	b := &bed{t: t, levels: levels}
	for range l.Levels() {
		d := newDisk(t)
		b.disks = append(b.disks, d)
		b.volumes = append(b.volumes, volumeOn(t, d))
	}
	b.s = serverOf(t, l, levels, b.volumes)
	return b
}

func serverOf(t *testing.T, l *lattice.Lattice, levels []int, volumes []*volume.Volume) *server.Server {
	t.Helper()
	s, e := server.New(l, levels, volumes)
	want(t, "New", e, api.OK)
	return s
}

// one is a server of one level, with one partition.
func one(t *testing.T) *bed {
	t.Helper()
	return bedOf(t, chain(t, 1), 0)
}

// pair is the chapter's examples' server.
func pair(t *testing.T) *bed {
	t.Helper()
	return bedOf(t, chain(t, 2), 0, 1)
}

// bare is a server whose levels have no volumes.
func bare(t *testing.T, l *lattice.Lattice, levels ...int) *server.Server {
	t.Helper()
	return serverOf(t, l, levels, make([]*volume.Volume, l.Levels()))
}

func wantSubmit(t *testing.T, s *server.Server, part int, request string, e api.Errno) {
	t.Helper()
	if got := s.Submit(part, request); got != e {
		t.Errorf("Submit(%d, %.30q): %d, not %d", part, request, got, e)
	}
}

func wantServe(t *testing.T, s *server.Server, level int, done bool, e api.Errno) {
	t.Helper()
	if got, ge := s.Serve(level); got != done || ge != e {
		t.Errorf("Serve(%d): %v, %d, not %v, %d", level, got, ge, done, e)
	}
}

func wantReply(t *testing.T, s *server.Server, part int, reply string, e api.Errno) {
	t.Helper()
	if got, ge := s.Reply(part); got != reply || ge != e {
		t.Errorf("Reply(%d): %q, %d, not %q, %d", part, got, ge, reply, e)
	}
}

func wantWaiting(t *testing.T, s *server.Server, l ...int) {
	t.Helper()
	for level, n := range l {
		if got := s.Waiting(level); got != n {
			t.Errorf("Waiting(%d): %d, not %d", level, got, n)
		}
	}
}

// ask has a request of a partition done, with none ahead of it, and wants its reply.
func (b *bed) ask(part int, request, reply string) {
	b.t.Helper()
	wantSubmit(b.t, b.s, part, request, api.OK)
	wantServe(b.t, b.s, b.levels[part], true, api.OK)
	wantReply(b.t, b.s, part, reply, api.OK)
	wantReply(b.t, b.s, part, "", api.ErrServerNone)
}

// asks has more than one done by partition 0, of which each goes well.
func (b *bed) asks(requests ...string) {
	b.t.Helper()
	for _, request := range requests {
		b.ask(0, request, ok(""))
	}
}

// wantEntries holds what a level's volume has.
func (b *bed) wantEntries(level int, l ...api.Entry) {
	b.t.Helper()
	if got := b.volumes[level].Entries(); !slices.Equal(got, l) {
		b.t.Errorf("the level %d has %+v, not %+v", level, got, l)
	}
}

func file(path, data string) api.Entry { return api.Entry{Path: path, Data: data} }

func dir(path string) api.Entry { return api.Entry{Path: path, Dir: true} }

// noIndex are numbers that are no place of a list of n.
func noIndex(n int) []int {
	return []int{-1, -2, n, n + 1, 255, 256, 1 << 32, math.MinInt, math.MaxInt}
}

// The chapter's examples.

func TestExampleOfARequest(t *testing.T) {
	b := pair(t)
	wantSubmit(t, b.s, 0, "\x01\x00\x02/a", api.OK)
	wantSubmit(t, b.s, 0, "\x01\x00\x02/a", api.ErrServerBusy)
	wantReply(t, b.s, 0, "", api.ErrServerNone)
	wantServe(t, b.s, 1, false, api.OK)
	wantServe(t, b.s, 0, true, api.OK)
	wantReply(t, b.s, 0, "\x00", api.OK)
	wantReply(t, b.s, 0, "", api.ErrServerNone)
}

func TestExampleOfLevels(t *testing.T) {
	b := pair(t)
	b.ask(0, mkdir(0, "/a"), ok(""))
	b.ask(1, mkdir(0, "/b"), "\xb5")
	b.ask(1, "\x07\x00\x01/\x00\x00", "\x00a\x0a")
	b.ask(0, "\x07\x01\x01/\x00\x00", "\xb5")
	b.wantEntries(0, dir("/a"))
	b.wantEntries(1)
}

func TestExampleOfNoRequests(t *testing.T) {
	b := pair(t)
	b.ask(0, "", "\xb4")
	b.ask(0, "\x0a\x00\x01/", "\xb4")
	b.ask(0, "\x08\x00\x01/\x00", "\xb4")
}

// P18.1

func TestNewOfPartitions(t *testing.T) {
	for n := 1; n <= 8; n++ {
		l := chain(t, n)
		for parts := range 12 {
			levels := make([]int, parts)
			for i := range levels {
				levels[i] = i % n
			}
			e := api.OK
			if parts > 8 {
				e = api.ErrArg
			}
			s, got := server.New(l, levels, make([]*volume.Volume, n))
			if got != e || (s != nil) != (e == api.OK) {
				t.Errorf("New of %d levels and %d partitions: %v, %d, not %d", n, parts, s != nil, got, e)
			}
			for at := range min(parts, 8) {
				for _, level := range noIndex(n) {
					wrong := slices.Clone(levels)
					wrong[at] = level
					if s, got := server.New(l, wrong, make([]*volume.Volume, n)); got != api.ErrArg || s != nil {
						t.Errorf("New of %d levels and partitions of %v: %v, %d", n, wrong, s != nil, got)
					}
				}
			}
		}
	}
}

func TestNewOfVolumes(t *testing.T) {
	for n := 1; n <= 8; n++ {
		for count := range 11 {
			e := api.ErrArg
			if count == n {
				e = api.OK
			}
			s, got := server.New(chain(t, n), []int{0}, make([]*volume.Volume, count))
			if got != e || (s != nil) != (e == api.OK) {
				t.Errorf("New of %d levels and %d volumes: %v, %d, not %d", n, count, s != nil, got, e)
			}
		}
		if s, got := server.New(chain(t, n), nil, nil); got != api.ErrArg || s != nil {
			t.Errorf("New of %d levels without a list of volumes: %v, %d", n, s != nil, got)
		}
	}
}

func TestNewServerHasNoRequests(t *testing.T) {
	b := bedOf(t, diamond(t), 3, 0, 2, 0)
	wantWaiting(t, b.s, 0, 0, 0, 0)
	for level := range 4 {
		wantServe(t, b.s, level, false, api.OK)
	}
	for part := range 4 {
		wantReply(t, b.s, part, "", api.ErrServerNone)
		wantSubmit(t, b.s, part, "", api.OK)
	}
}

func TestServerWithoutPartitions(t *testing.T) {
	for _, levels := range [][]int{nil, {}} {
		b := bedOf(t, chain(t, 2), levels...)
		wantSubmit(t, b.s, 0, "", api.ErrArg)
		wantReply(t, b.s, 0, "", api.ErrArg)
		wantServe(t, b.s, 0, false, api.OK)
		wantWaiting(t, b.s, 0, 0, 0)
	}
}

func TestNewNeitherKeepsNorChangesItsLists(t *testing.T) {
	levels := []int{0, 1, 1, 0}[:3]
	volumes := []*volume.Volume{volumeOn(t, newDisk(t)), volumeOn(t, newDisk(t)), nil}[:2]
	want(t, "Mkdir", volumes[1].Mkdir("/b"), api.OK)
	was := slices.Clone(volumes[:3])
	b := &bed{t: t, s: serverOf(t, chain(t, 2), levels, volumes), levels: []int{0, 1, 1}, volumes: slices.Clone(volumes)}
	levels[0], levels[1], levels[2] = 1, 0, 0
	volumes[0], volumes[1] = nil, nil
	b.ask(0, mkdir(0, "/a"), ok(""))
	b.ask(1, stat(1, "/b"), ok("\x02\x00\x00"))
	b.ask(2, remove(1, "/b"), ok(""))
	b.wantEntries(0, dir("/a"))
	b.wantEntries(1)
	if l := levels[:4]; !slices.Equal(l, []int{1, 0, 0, 0}) {
		t.Errorf("the levels are %v", l)
	}
	if l := volumes[:3]; l[0] != nil || l[1] != nil || l[2] != was[2] {
		t.Error("the volumes are other ones")
	}
}

// P18.2

func TestSubmitOfNoPartition(t *testing.T) {
	for n := range 9 {
		s := bare(t, chain(t, 1), make([]int, n)...)
		for _, part := range noIndex(n) {
			wantSubmit(t, s, part, "", api.ErrArg)
			wantSubmit(t, s, part, noughts(256), api.ErrArg)
		}
		wantWaiting(t, s, 0)
		wantServe(t, s, 0, false, api.OK)
	}
}

func TestSubmitOfLongRequests(t *testing.T) {
	for n := range 600 {
		s := bare(t, chain(t, 1), 0)
		e, waiting := api.OK, 1
		if n > 255 {
			e, waiting = api.ErrServerText, 0
		}
		wantSubmit(t, s, 0, noughts(n), e)
		wantWaiting(t, s, waiting)
	}
	b := one(t)
	b.asks(create(0, "/f"))
	b.ask(0, write(0, "/f", 0, strings.Repeat("x", 248)), ok(""))
	b.wantEntries(0, file("/f", strings.Repeat("x", 248)))
	wantSubmit(t, b.s, 0, write(0, "/f", 0, strings.Repeat("y", 249)), api.ErrServerText)
	wantServe(t, b.s, 0, false, api.OK)
	b.wantEntries(0, file("/f", strings.Repeat("x", 248)))
}

func TestSubmitOfABusyPartition(t *testing.T) {
	b := bedOf(t, chain(t, 1), 0, 0)
	busy := func(part int) {
		t.Helper()
		wantSubmit(t, b.s, part, mkdir(0, "/no"), api.ErrServerBusy)
		wantSubmit(t, b.s, part, "", api.ErrServerBusy)
		wantSubmit(t, b.s, part, noughts(255), api.ErrServerBusy)
		wantSubmit(t, b.s, part, noughts(256), api.ErrServerText)
	}
	wantSubmit(t, b.s, 0, mkdir(0, "/a"), api.OK)
	busy(0)
	wantWaiting(t, b.s, 1)
	wantSubmit(t, b.s, 1, mkdir(0, "/b"), api.OK)
	busy(0)
	busy(1)
	wantWaiting(t, b.s, 2)
	wantServe(t, b.s, 0, true, api.OK)
	busy(0)
	busy(1)
	wantWaiting(t, b.s, 1)
	wantReply(t, b.s, 0, ok(""), api.OK)
	busy(1)
	wantSubmit(t, b.s, 0, mkdir(0, "/c"), api.OK)
	busy(0)
	wantServe(t, b.s, 0, true, api.OK)
	busy(1)
	wantServe(t, b.s, 0, true, api.OK)
	busy(0)
	busy(1)
	wantServe(t, b.s, 0, false, api.OK)
	wantReply(t, b.s, 0, ok(""), api.OK)
	wantReply(t, b.s, 1, ok(""), api.OK)
	b.wantEntries(0, dir("/a"), dir("/b"), dir("/c"))
}

// A reply of an error alone makes a partition as busy as others.
func TestSubmitBehindEachReply(t *testing.T) {
	b := one(t)
	b.asks(create(0, "/f"))
	for _, request := range []string{"", stat(9, "/"), stat(0, "x"), mkdir(0, "/d"), read(0, "/f", 0, 9)} {
		wantSubmit(t, b.s, 0, request, api.OK)
		wantServe(t, b.s, 0, true, api.OK)
		wantSubmit(t, b.s, 0, "", api.ErrServerBusy)
		if s, e := b.s.Reply(0); s == "" || e != api.OK {
			t.Errorf("Reply of %q: %q, %d", request, s, e)
		}
	}
}

func TestRequestsOfALevelAreDoneInTheirOrder(t *testing.T) {
	b := bedOf(t, chain(t, 2), 0, 1, 0, 1, 0, 0, 1, 0)
	orders := [][]int{{0, 2, 4, 5, 7}, {7, 5, 4, 2, 0}, {4, 7, 0, 2, 5}, {5}, {2, 0}}
	for _, order := range orders {
		for i, part := range order {
			wantSubmit(t, b.s, part, write(0, "/f", i, string(rune('a'+part))), api.OK)
			wantWaiting(t, b.s, i+1, min(i, 1))
			if i == 0 {
				wantSubmit(t, b.s, 3, "", api.OK)
			}
		}
		want(t, "Create", b.volumes[0].Create("/f"), api.OK)
		for i, part := range order {
			wantReply(t, b.s, part, "", api.ErrServerNone)
			wantServe(t, b.s, 0, true, api.OK)
			wantReply(t, b.s, part, ok(""), api.OK)
			wantWaiting(t, b.s, len(order)-i-1, 1)
		}
		wantServe(t, b.s, 0, false, api.OK)
		wantServe(t, b.s, 1, true, api.OK)
		wantReply(t, b.s, 3, told(api.ErrServerText), api.OK)
		want(t, "Remove", b.volumes[0].Remove("/f"), api.OK)
	}
}

// Each is done behind those that came ahead of it, also of those that came when others had been done already.
func TestRequestsGoBehindTheOthers(t *testing.T) {
	s := bare(t, chain(t, 1), 0, 0, 0)
	wantSubmit(t, s, 0, "", api.OK)
	wantSubmit(t, s, 1, "", api.OK)
	for n := range 100 {
		first, third := n%3, (n+2)%3
		wantSubmit(t, s, third, "", api.OK)
		wantWaiting(t, s, 3)
		wantServe(t, s, 0, true, api.OK)
		wantReply(t, s, first, told(api.ErrServerText), api.OK)
		wantReply(t, s, third, "", api.ErrServerNone)
	}
}

// A request's bytes are not kept: its own are changed behind Submit's back.
func TestSubmitDoesNotKeepItsText(t *testing.T) {
	b := one(t)
	bytes := []byte(mkdir(0, "/a"))
	wantSubmit(t, b.s, 0, unsafe.String(&bytes[0], len(bytes)), api.OK)
	bytes[len(bytes)-1] = 'b'
	wantServe(t, b.s, 0, true, api.OK)
	wantReply(t, b.s, 0, ok(""), api.OK)
	b.wantEntries(0, dir("/a"))
}

// P18.4

func TestReplyOfNoPartition(t *testing.T) {
	for n := range 9 {
		s := bare(t, chain(t, 1), make([]int, n)...)
		for part := range n {
			wantSubmit(t, s, part, "", api.OK)
			wantServe(t, s, 0, true, api.OK)
		}
		for _, part := range noIndex(n) {
			wantReply(t, s, part, "", api.ErrArg)
		}
		for part := range n {
			wantReply(t, s, part, told(api.ErrServerText), api.OK)
			wantReply(t, s, part, "", api.ErrServerNone)
		}
	}
}

func TestRepliesAreTheirPartitions(t *testing.T) {
	b := bedOf(t, chain(t, 1), 0, 0, 0)
	b.asks(create(0, "/f"), write(0, "/f", 0, "keep"))
	for part := range 3 {
		wantSubmit(t, b.s, part, read(0, "/f", part, 2), api.OK)
	}
	for range 3 {
		wantServe(t, b.s, 0, true, api.OK)
	}
	wantReply(t, b.s, 2, ok("ep"), api.OK)
	wantReply(t, b.s, 0, ok("ke"), api.OK)
	wantReply(t, b.s, 2, "", api.ErrServerNone)
	wantReply(t, b.s, 1, ok("ee"), api.OK)
	wantReply(t, b.s, 0, "", api.ErrServerNone)
	wantReply(t, b.s, 1, "", api.ErrServerNone)
}

func TestWaitingAndServeOfNoLevel(t *testing.T) {
	for n := 1; n <= 8; n++ {
		var levels []int
		for level := range n {
			levels = append(levels, level)
		}
		s := bare(t, chain(t, n), levels...)
		for part := range n {
			wantSubmit(t, s, part, "", api.OK)
		}
		for _, level := range noIndex(n) {
			if got := s.Waiting(level); got != 0 {
				t.Errorf("Waiting(%d) of %d levels: %d", level, n, got)
			}
			wantServe(t, s, level, false, api.OK)
		}
		for level := range n {
			wantWaiting(t, s, append(slices.Repeat([]int{0}, level), slices.Repeat([]int{1}, n-level)...)...)
			wantServe(t, s, level, true, api.OK)
		}
	}
}
