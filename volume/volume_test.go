package volume_test

import (
	"encoding/binary"
	"math"
	"slices"
	"strings"
	"testing"

	"castellan/api"
	"castellan/block"
	"castellan/disk"
	"castellan/journal"
	"castellan/volume"
)

func noughts(n int) string { return strings.Repeat("\x00", n) }

// entryOf is one of an image, as its bytes are.
func entryOf(kind byte, path string, size int, data string) string {
	b := append([]byte{kind, byte(len(path))}, path...)
	return string(binary.BigEndian.AppendUint16(b, uint16(size))) + data
}

func fileOf(path, data string) string { return entryOf(1, path, len(data), data) }

func dirOf(path string) string { return entryOf(2, path, 0, "") }

// imageOf is one of some entries' bytes.
func imageOf(l ...string) string {
	return string(binary.BigEndian.AppendUint16(nil, uint16(len(l)))) + strings.Join(l, "")
}

// areaOf is how many blocks a journal needs for a transaction of all cells.
func areaOf(cells int) int { return max(4, cells+3) }

// devOf is the whole of a disk.
func devOf(t *testing.T, d *disk.Disk) *block.Dev {
	t.Helper()
	v, e := block.New(d, 0, d.Count(), 0)
	want(t, "block.New", e, api.OK)
	return v
}

// journalOf is a new one with some cells that have bytes, safe on a disk.
func journalOf(t *testing.T, area, cells int, bytes string) (*disk.Disk, *journal.Journal) {
	t.Helper()
	d, e := disk.New(noughts(128 * (area + cells)))
	want(t, "disk.New", e, api.OK)
	j, e := journal.Format(devOf(t, d), area)
	want(t, "Format", e, api.OK)
	for cell := 0; bytes != ""; cell++ {
		n := min(116, len(bytes))
		want(t, "Commit", j.Commit([]api.Write{{Cell: cell, Data: bytes[:n]}}), api.OK)
		bytes = bytes[n:]
	}
	want(t, "Checkpoint", j.Checkpoint(), api.OK)
	return d, j
}

// opened is the volume of some bytes in some cells.
func opened(t *testing.T, cells int, bytes string) (*disk.Disk, *journal.Journal, *volume.Volume) {
	t.Helper()
	d, j := journalOf(t, areaOf(cells), cells, bytes)
	v, e := volume.Open(j)
	want(t, "Open", e, api.OK)
	return d, j, v
}

// empty is a new one.
func empty(t *testing.T, cells int) *volume.Volume {
	t.Helper()
	_, _, v := opened(t, cells, "")
	return v
}

func want(t *testing.T, what string, got, e api.Errno) {
	t.Helper()
	if got != e {
		t.Fatalf("%s: %d, not %d", what, got, e)
	}
}

func wantInt(t *testing.T, what string, got, n int) {
	t.Helper()
	if got != n {
		t.Errorf("%s: %d, not %d", what, got, n)
	}
}

func wantOpen(t *testing.T, what string, j *journal.Journal, e api.Errno) {
	t.Helper()
	v, got := volume.Open(j)
	if got != e || (v != nil) != (e == api.OK) {
		t.Errorf("Open of %s: %v, %d, not %d", what, v != nil, got, e)
	}
}

func wantRead(t *testing.T, v *volume.Volume, path string, at, n int, s string, e api.Errno) {
	t.Helper()
	if got, ge := v.Read(path, at, n); got != s || ge != e {
		t.Errorf("Read(%q, %d, %d): %q, %d, not %q, %d", path, at, n, got, ge, s, e)
	}
}

func wantList(t *testing.T, v *volume.Volume, path string, e api.Errno, l ...string) {
	t.Helper()
	if got, ge := v.List(path); !slices.Equal(got, l) || ge != e {
		t.Errorf("List(%q): %q, %d, not %q, %d", path, got, ge, l, e)
	}
}

func wantStat(t *testing.T, v *volume.Volume, path string, dir bool, size int, e api.Errno) {
	t.Helper()
	if gd, gs, ge := v.Stat(path); gd != dir || gs != size || ge != e {
		t.Errorf("Stat(%q): %v, %d, %d, not %v, %d, %d", path, gd, gs, ge, dir, size, e)
	}
}

func wantEntries(t *testing.T, v *volume.Volume, l ...api.Entry) {
	t.Helper()
	if got := v.Entries(); !slices.Equal(got, l) {
		t.Errorf("Entries: %+v, not %+v", got, l)
	}
}

func file(path, data string) api.Entry { return api.Entry{Path: path, Data: data} }

func dir(path string) api.Entry { return api.Entry{Path: path, Dir: true} }

// wantCells holds the cells against an image with noughts behind it.
func wantCells(t *testing.T, j *journal.Journal, image string) {
	t.Helper()
	got := ""
	for cell := range j.Cells() {
		s, e := j.Read(cell)
		want(t, "Read of a cell", e, api.OK)
		got += s
	}
	if s := image + noughts(len(got)-len(image)); got != s {
		t.Errorf("cells: %q, not %q", got, s)
	}
}

// The chapter's examples.

func TestExampleOfPaths(t *testing.T) {
	for s, is := range map[string]bool{"/a/b.c": true, "/": true, "": false, "a": false, "/a/": false, "/..": false, "/A": false} {
		if volume.Path(s) != is {
			t.Errorf("Path(%q): %v", s, !is)
		}
	}
}

func TestExampleOfCalls(t *testing.T) {
	_, j, v := opened(t, 3, "")
	wantInt(t, "Free", v.Free(), 346)
	want(t, "Mkdir", v.Mkdir("/d"), api.OK)
	want(t, "Create", v.Create("/d/f"), api.OK)
	want(t, "Create", v.Create("/d/f"), api.ErrVolumeDone)
	want(t, "Create", v.Create("/x/f"), api.ErrVolumeNone)
	want(t, "Create", v.Create("/d/f/g"), api.ErrVolumeKind)
	wantInt(t, "Free", v.Free(), 332)

	want(t, "Write", v.Write("/d/f", 0, "abc"), api.OK)
	want(t, "Write", v.Write("/d/f", 1, "x"), api.OK)
	want(t, "Write", v.Write("/d/f", 4, "y"), api.ErrArg)
	wantRead(t, v, "/d/f", 0, 9, "axc", api.OK)
	wantStat(t, v, "/d/f", false, 3, api.OK)

	want(t, "Remove", v.Remove("/d"), api.ErrVolumeBusy)
	want(t, "Rename", v.Rename("/d/f", "/g"), api.OK)
	want(t, "Rename", v.Rename("/d", "/e"), api.ErrVolumeKind)
	wantList(t, v, "/", api.OK, "d", "g")
	want(t, "Remove", v.Remove("/d"), api.OK)
	want(t, "Remove", v.Remove("/"), api.ErrVolumeKind)

	s, e := j.Read(0)
	want(t, "Read of a cell", e, api.OK)
	if s[:9] != "\x00\x01\x01\x02\x2f\x67\x00\x03\x61" {
		t.Errorf("the first nine bytes: % x", s[:9])
	}
}

// P17.1

func TestPathsOfEachByte(t *testing.T) {
	for b := range 256 {
		is := b >= 'a' && b <= 'z' || b >= '0' && b <= '9' || strings.ContainsRune("._-", rune(b))
		for _, s := range []string{"/" + string([]byte{byte(b)}), "/x" + string([]byte{byte(b)}), "/n/" + string([]byte{byte(b)}) + "y/m"} {
			w := is && s != "/."
			if s == "/n/.y/m" || s == "/x/" {
				w = s != "/x/"
			}
			if volume.Path(s) != w {
				t.Errorf("Path(%q): %v", s, !w)
			}
		}
	}
}

func TestPathsAtTheEdges(t *testing.T) {
	n12, n11 := "/abcdefghijkl", "/abcdefghijk"
	for _, s := range []string{"/", "/a", n12, "/0/1/2/3", "/...", "/.a", "/a.", "/..a", "/a..", "/-", "/_", strings.Repeat(n11, 4), strings.Repeat("/a", 24), strings.Repeat(n12, 3) + "/abcdefgh", "/.../..."} {
		if !volume.Path(s) {
			t.Errorf("Path(%q): false", s)
		}
	}
	for _, s := range []string{"", "a", "//", "//a", "/a//b", "/a/", "a/", "a/b", "/.", "/..", "/a/.", "/a/..", "/./a", "/../a", "/a/./b", "/a/../b", n12 + "m", "/a" + n12 + "m", "/a" + n12 + "m/b",
		strings.Repeat("/a", 25), strings.Repeat("/a", 23) + "/ab", strings.Repeat(n11, 4) + "/", strings.Repeat(n12, 3) + "/abcdefghi", "/A", "/a b", "/a\x00", "/\x00", "/é", "/\xff", " /a", "/a\n", "\\a", "/a:b", "/a,", "/a^", "/a`", "/a{", "/a@", "/a[", strings.Repeat("/", 48), strings.Repeat("/a", 1<<20)} {
		if volume.Path(s) {
			t.Errorf("Path(%q): true", s)
		}
	}
}

func TestOpenOfANewJournal(t *testing.T) {
	for cells := 1; cells <= 40; cells++ {
		_, j, v := opened(t, cells, "")
		wantInt(t, "Free", v.Free(), 116*cells-2)
		wantEntries(t, v)
		wantList(t, v, "/", api.OK)
		wantStat(t, v, "/", true, 0, api.OK)
		wantCells(t, j, "")
		if v.Dead() {
			t.Error("a new one is dead")
		}
	}
}

func TestOpenOfTooManyCells(t *testing.T) {
	for _, x := range []struct {
		area, cells int
		e           api.Errno
	}{
		{4, 1, api.OK}, {4, 2, api.ErrVolumeForm}, {5, 2, api.OK}, {5, 3, api.ErrVolumeForm}, {43, 40, api.OK}, {42, 40, api.ErrVolumeForm},
		{44, 41, api.ErrVolumeForm}, {100, 41, api.ErrVolumeForm}, {100, 40, api.OK}, {100, 1, api.OK},
	} {
		_, j := journalOf(t, x.area, x.cells, "")
		wantOpen(t, "many cells", j, x.e)
	}
}

func TestOpenOfADeadJournal(t *testing.T) {
	// Too many cells, and bytes that are no image: that it is dead comes first.
	for _, cells := range []int{1, 2} {
		d, j := journalOf(t, 4, cells, "\xff")
		want(t, "Crash", d.Crash(nil), api.OK)
		want(t, "Sync", j.Sync(), api.ErrDead)
		wantOpen(t, "a dead journal", j, api.ErrDead)
	}
}

func TestOpenWithoutPower(t *testing.T) {
	d, j := journalOf(t, 4, 1, "")
	want(t, "Crash", d.Crash(nil), api.OK)
	wantOpen(t, "a journal whose home can't be read", j, api.ErrDead)

	d, j = journalOf(t, 4, 1, "")
	want(t, "Commit", j.Commit([]api.Write{{Data: imageOf(dirOf("/a"))}}), api.OK)
	want(t, "Crash", d.Crash(nil), api.OK)
	v, e := volume.Open(j)
	want(t, "Open of a journal that needs no home", e, api.OK)
	wantEntries(t, v, dir("/a"))
}

// The homes of some cells don't read; that comes ahead of what the others have.
func TestOpenOfHomesThatDontRead(t *testing.T) {
	for broken := range 3 {
		d, j := journalOf(t, 6, 3, "\xff"+noughts(115)+noughts(116)+"x")
		want(t, "Write", d.Write(6+broken, "broken"+noughts(122)), api.OK)
		wantOpen(t, "a broken home", j, api.ErrBlockSum)
	}
	// Too many cells come ahead of that.
	d, j := journalOf(t, 5, 3, "")
	want(t, "Write", d.Write(5, "broken"+noughts(122)), api.OK)
	wantOpen(t, "many cells", j, api.ErrVolumeForm)
}

func TestOpenOfImages(t *testing.T) {
	long := strings.Repeat("l", 1024)
	for _, x := range []struct {
		image string
		l     []api.Entry
	}{
		{"", nil}, {imageOf(), nil},
		{imageOf(dirOf("/a")), []api.Entry{dir("/a")}},
		{imageOf(fileOf("/a", "")), []api.Entry{file("/a", "")}},
		{imageOf(fileOf("/a", "x\x00")), []api.Entry{file("/a", "x\x00")}},
		{imageOf(fileOf("/a", "\x00\x00\x00")), []api.Entry{file("/a", "\x00\x00\x00")}},
		{imageOf(fileOf("/a", long)), []api.Entry{file("/a", long)}},
		{imageOf(dirOf("/a"), dirOf("/a-b"), dirOf("/a.b"), fileOf("/a/b", "1"), dirOf("/a/c"), fileOf("/a/c/d", "2"), fileOf("/a0", "3")),
			[]api.Entry{dir("/a"), dir("/a-b"), dir("/a.b"), file("/a/b", "1"), dir("/a/c"), file("/a/c/d", "2"), file("/a0", "3")}},
	} {
		_, j, v := opened(t, 20, x.image)
		wantEntries(t, v, x.l...)
		wantInt(t, "Free", v.Free(), 2320-max(2, len(x.image)))
		wantCells(t, j, x.image)
	}
}

func TestOpenOfWhatIsNoImage(t *testing.T) {
	a, b := fileOf("/a", "x"), dirOf("/b")
	for what, bytes := range map[string]string{
		"more than there are":        "\x00\x02" + a,
		"fewer than there are":       "\x00\x01" + a + b,
		"none of those that are":     "\x00\x00" + a,
		"very many":                  "\xff\xff" + a,
		"256 of 0":                   "\x01\x00",
		"a byte behind":              imageOf(a) + "\x01",
		"a byte far behind":          imageOf(a) + noughts(400) + "\x01",
		"the kind 0":                 imageOf(entryOf(0, "/a", 0, "")),
		"the kind 3":                 imageOf(entryOf(3, "/a", 0, "")),
		"the kind 255":               imageOf(entryOf(255, "/a", 0, "")),
		"an entry of the kind 3 two": imageOf(a, entryOf(3, "/b", 0, "")),
		"falling":                    imageOf(b, a),
		"twice":                      imageOf(a, a),
		"twice, of two kinds":        imageOf(a, dirOf("/a")),
		"not rising byte by byte":    imageOf(dirOf("/a"), fileOf("/a/b", ""), fileOf("/a-b", "")),
		"the root":                   imageOf(dirOf("/")),
		"the root as a file":         imageOf(fileOf("/", "")),
		"the root among others":      imageOf(dirOf("/"), a),
		"no path":                    imageOf(fileOf("", "")),
		"a path without its begin":   imageOf(fileOf("a", "")),
		"a path with an end":         imageOf(dirOf("/a"), dirOf("/a/")),
		"a path of two names":        imageOf(dirOf("/.")),
		"a path above":               imageOf(dirOf("/..")),
		"a path of a great letter":   imageOf(dirOf("/A")),
		"a name that is too long":    imageOf(dirOf("/abcdefghijklm")),
		"a path that is too long":    imageOf(dirOf("/a"), dirOf("/a"+strings.Repeat("/abcdefghijkl", 3)+"/abcdefgh")),
		"no parent":                  imageOf(fileOf("/a/b", "")),
		"no parent, but one behind":  imageOf(fileOf("/a-b/c", ""), dirOf("/a-b")),
		"a parent that is a file":    imageOf(fileOf("/a", ""), fileOf("/a/b", "")),
		"a parent's parent":          imageOf(dirOf("/a"), fileOf("/a/b/c", "")),
		"a directory with bytes":     imageOf(entryOf(2, "/a", 1, "x")),
		"a directory with noughts":   imageOf(entryOf(2, "/a", 1, "\x00")),
		"1025 bytes":                 imageOf(fileOf("/a", strings.Repeat("x", 1025))),
		"1025 noughts":               imageOf(fileOf("/a", noughts(1025))),
		"65535 bytes":                imageOf(entryOf(1, "/a", 65535, "x")),
		"a path behind the end":      noughts(0) + "\x00\x01" + "\x01\xff/a",
	} {
		_, j := journalOf(t, areaOf(20), 20, bytes)
		wantOpen(t, what, j, api.ErrVolumeForm)
	}
}

// An image may fill all cells; one whose end is not there is none.
func TestOpenOfImagesThatEnd(t *testing.T) {
	whole := imageOf(dirOf("/d"), fileOf("/d/f", strings.Repeat("x", 106)))
	wantInt(t, "the image", len(whole), 116+6)
	for cut := 0; cut <= 6; cut++ {
		image := imageOf(dirOf("/d"), fileOf("/d/f", strings.Repeat("x", 106-cut)))
		_, j := journalOf(t, 4, 1, image[:min(116, len(image))])
		e := api.ErrVolumeForm
		if cut == 6 {
			e = api.OK
		}
		wantOpen(t, "an image of many bytes", j, e)
	}
	// It ends within what stands ahead of the data, too.
	for n := 0; n <= 8; n++ {
		first := fileOf("/a", strings.Repeat("x", 116-2-6-n))
		_, j := journalOf(t, 4, 1, (imageOf(first, fileOf("/b", "")))[:min(116, 116-n+6)])
		e := api.ErrVolumeForm
		if n >= 6 {
			e = api.OK
		}
		wantOpen(t, "an image whose end is not there", j, e)
	}
}

// P17.2

// paths that are none.
var wrong = []string{"", "a", "/a/", "/A", "/..", "/abcdefghijklm", strings.Repeat("/a", 25)}

func TestWhatIsRefusedFirst(t *testing.T) {
	v := empty(t, 1)
	for _, s := range wrong {
		want(t, "Mkdir", v.Mkdir(s), api.ErrVolumePath)
		want(t, "Create", v.Create(s), api.ErrVolumePath)
		want(t, "Write", v.Write(s, -1, strings.Repeat("x", 2000)), api.ErrVolumePath)
		want(t, "Remove", v.Remove(s), api.ErrVolumePath)
		want(t, "Rename", v.Rename(s, "/a"), api.ErrVolumePath)
		want(t, "Rename", v.Rename("/", s), api.ErrVolumePath)
		want(t, "Rename", v.Rename("/none", s), api.ErrVolumePath)
		want(t, "Rename", v.Rename(s, s), api.ErrVolumePath)
		wantRead(t, v, s, -1, -1, "", api.ErrVolumePath)
		wantList(t, v, s, api.ErrVolumePath)
		wantStat(t, v, s, false, 0, api.ErrVolumePath)
	}
	wantEntries(t, v)
}

// tree is a volume with files and directories in one another.
func tree(t *testing.T) (*journal.Journal, *volume.Volume) {
	_, j, v := opened(t, 12, imageOf(dirOf("/d"), dirOf("/d/e"), fileOf("/d/e/f", "abc"), fileOf("/d/g", ""), dirOf("/e"), fileOf("/h", "xyz")))
	return j, v
}

func TestMkdirAndCreate(t *testing.T) {
	for what, x := range map[string]struct {
		do  func(v *volume.Volume, path string) api.Errno
		dir bool
	}{"Mkdir": {(*volume.Volume).Mkdir, true}, "Create": {(*volume.Volume).Create, false}} {
		for path, e := range map[string]api.Errno{
			"/": api.ErrVolumeDone, "/d": api.ErrVolumeDone, "/d/e": api.ErrVolumeDone, "/h": api.ErrVolumeDone, "/d/e/f": api.ErrVolumeDone,
			"/n/a": api.ErrVolumeNone, "/d/n/a": api.ErrVolumeNone, "/d/e/n/a": api.ErrVolumeNone, "/h/a/b": api.ErrVolumeNone,
			"/h/a": api.ErrVolumeKind, "/d/g/a": api.ErrVolumeKind, "/d/e/f/a": api.ErrVolumeKind,
			"/a": api.OK, "/d/a": api.OK, "/d/e/a": api.OK, "/e/a": api.OK, "/d/e/...": api.OK, "/h0": api.OK, "/hh": api.OK,
		} {
			_, v := tree(t)
			before := v.Entries()
			want(t, what+" of "+path, x.do(v, path), e)
			after := before
			if e == api.OK {
				after = append(slices.Clone(before), api.Entry{Path: path, Dir: x.dir})
				slices.SortFunc(after, func(a, b api.Entry) int { return strings.Compare(a.Path, b.Path) })
				wantStat(t, v, path, x.dir, 0, api.OK)
			}
			wantEntries(t, v, after...)
		}
	}
}

func TestWriteOfPlaces(t *testing.T) {
	for _, x := range []struct {
		path string
		at   int
		data string
		e    api.Errno
		s    string
	}{
		{"/n", -1, strings.Repeat("x", 1025), api.ErrVolumeNone, ""},
		{"/h/n", 0, "", api.ErrVolumeNone, ""},
		{"/", -1, "", api.ErrVolumeKind, ""},
		{"/d", -1, "", api.ErrVolumeKind, ""},
		{"/d/e", 0, strings.Repeat("x", 1025), api.ErrVolumeKind, ""},
		{"/h", -1, "x", api.ErrArg, "xyz"},
		{"/h", 4, "x", api.ErrArg, "xyz"},
		{"/h", 4, "", api.ErrArg, "xyz"},
		{"/h", -1, strings.Repeat("x", 1025), api.ErrArg, "xyz"},
		{"/h", math.MinInt, "x", api.ErrArg, "xyz"},
		{"/h", math.MaxInt, "x", api.ErrArg, "xyz"},
		{"/h", math.MaxInt, strings.Repeat("x", 1025), api.ErrArg, "xyz"},
		{"/h", 0, strings.Repeat("x", 1025), api.ErrVolumeLong, "xyz"},
		{"/h", 3, strings.Repeat("x", 1022), api.ErrVolumeLong, "xyz"},
		{"/h", 1, strings.Repeat("x", 1024), api.ErrVolumeLong, "xyz"},
		{"/h", 0, strings.Repeat("x", 1<<20), api.ErrVolumeLong, "xyz"},
		{"/h", 0, strings.Repeat("w", 1024), api.OK, strings.Repeat("w", 1024)},
		{"/h", 3, strings.Repeat("w", 1021), api.OK, "xyz" + strings.Repeat("w", 1021)},
		{"/h", 0, "", api.OK, "xyz"}, {"/h", 3, "", api.OK, "xyz"},
		{"/h", 0, "w", api.OK, "wyz"}, {"/h", 1, "w", api.OK, "xwz"}, {"/h", 2, "w", api.OK, "xyw"}, {"/h", 3, "w", api.OK, "xyzw"},
		{"/h", 0, "uvw", api.OK, "uvw"}, {"/h", 0, "tuvw", api.OK, "tuvw"}, {"/h", 2, "uvw", api.OK, "xyuvw"}, {"/h", 1, "\x00\xff", api.OK, "x\x00\xff"},
		{"/d/g", 0, "w", api.OK, "w"}, {"/d/g", 0, "", api.OK, ""}, {"/d/g", 1, "w", api.ErrArg, ""},
	} {
		j, v := tree(t)
		before := v.Entries()
		want(t, "Write to "+x.path, v.Write(x.path, x.at, x.data), x.e)
		for i, entry := range before {
			if entry.Path == x.path && !entry.Dir {
				before[i].Data = x.s
				wantRead(t, v, x.path, 0, 2000, x.s, api.OK)
				wantStat(t, v, x.path, false, len(x.s), api.OK)
			}
		}
		wantEntries(t, v, before...)
		wantReopened(t, j, v)
	}
}

// wantReopened holds a volume against what its cells are opened as.
func wantReopened(t *testing.T, j *journal.Journal, v *volume.Volume) {
	t.Helper()
	w, e := volume.Open(j)
	want(t, "Open", e, api.OK)
	wantEntries(t, w, v.Entries()...)
	wantInt(t, "Free", w.Free(), v.Free())
}

func TestRemoveOfEach(t *testing.T) {
	for path, e := range map[string]api.Errno{
		"/n": api.ErrVolumeNone, "/h/n": api.ErrVolumeNone, "/d/n": api.ErrVolumeNone,
		"/": api.ErrVolumeKind, "/d": api.ErrVolumeBusy, "/d/e": api.ErrVolumeBusy,
		"/e": api.OK, "/h": api.OK, "/d/g": api.OK, "/d/e/f": api.OK,
	} {
		j, v := tree(t)
		before := v.Entries()
		want(t, "Remove of "+path, v.Remove(path), e)
		if e == api.OK {
			before = slices.DeleteFunc(before, func(x api.Entry) bool { return x.Path == path })
			wantStat(t, v, path, false, 0, api.ErrVolumeNone)
			want(t, "Remove of "+path+" again", v.Remove(path), api.ErrVolumeNone)
		}
		wantEntries(t, v, before...)
		wantReopened(t, j, v)
	}
}

// Of the root of an empty volume, too.
func TestRemoveOfTheEmptyRoot(t *testing.T) {
	want(t, "Remove", empty(t, 1).Remove("/"), api.ErrVolumeKind)
}

// What begins with the same bytes as a directory is not in it.
func TestRemoveBesideOthers(t *testing.T) {
	_, _, v := opened(t, 3, imageOf(dirOf("/a"), fileOf("/a-", ""), fileOf("/a.b", ""), fileOf("/a0", ""), dirOf("/b"), dirOf("/b/a"), fileOf("/b/a/c", "")))
	want(t, "Remove", v.Remove("/a"), api.OK)
	want(t, "Remove", v.Remove("/b"), api.ErrVolumeBusy)
	want(t, "Remove", v.Remove("/b/a/c"), api.OK)
	want(t, "Remove", v.Remove("/b/a"), api.OK)
	want(t, "Remove", v.Remove("/b"), api.OK)
	wantList(t, v, "/", api.OK, "a-", "a.b", "a0")
}

func TestRenameOfEach(t *testing.T) {
	for _, x := range []struct {
		from, to string
		e        api.Errno
	}{
		{"/n", "/", api.ErrVolumeNone}, {"/n", "/n", api.ErrVolumeNone}, {"/n", "/m/o", api.ErrVolumeNone}, {"/h/n", "/o", api.ErrVolumeNone},
		{"/", "/", api.ErrVolumeKind}, {"/", "/a", api.ErrVolumeKind}, {"/d", "/d", api.ErrVolumeKind}, {"/e", "/a", api.ErrVolumeKind}, {"/d/e", "/h/a", api.ErrVolumeKind},
		{"/h", "/", api.ErrVolumeDone}, {"/h", "/h", api.ErrVolumeDone}, {"/h", "/d", api.ErrVolumeDone}, {"/h", "/d/g", api.ErrVolumeDone},
		{"/h", "/n/a", api.ErrVolumeNone}, {"/h", "/h/a/b", api.ErrVolumeNone},
		{"/h", "/h/a", api.ErrVolumeKind}, {"/h", "/d/g/a", api.ErrVolumeKind},
		{"/h", "/a", api.OK}, {"/h", "/e/h", api.OK}, {"/h", "/hh", api.OK}, {"/h", "/d/e/a", api.OK}, {"/d/e/f", "/f", api.OK}, {"/d/e/f", "/d/f", api.OK}, {"/d/g", "/z", api.OK},
	} {
		j, v := tree(t)
		before := v.Entries()
		want(t, "Rename of "+x.from+" to "+x.to, v.Rename(x.from, x.to), x.e)
		if x.e == api.OK {
			at := slices.IndexFunc(before, func(o api.Entry) bool { return o.Path == x.from })
			before[at].Path = x.to
			slices.SortFunc(before, func(a, b api.Entry) int { return strings.Compare(a.Path, b.Path) })
			wantStat(t, v, x.from, false, 0, api.ErrVolumeNone)
			wantRead(t, v, x.to, 0, 2000, before[slices.IndexFunc(before, func(o api.Entry) bool { return o.Path == x.to })].Data, api.OK)
		}
		wantEntries(t, v, before...)
		wantReopened(t, j, v)
	}
}

func TestReadOfPlaces(t *testing.T) {
	_, v := tree(t)
	for _, path := range []string{"/n", "/h/n", "/d/n"} {
		wantRead(t, v, path, -1, -1, "", api.ErrVolumeNone)
	}
	for _, path := range []string{"/", "/d", "/d/e"} {
		wantRead(t, v, path, -1, -1, "", api.ErrVolumeKind)
		wantRead(t, v, path, 0, 0, "", api.ErrVolumeKind)
	}
	for _, x := range [][2]int{{-1, 0}, {0, -1}, {-1, -1}, {4, 0}, {4, 1}, {4, -1}, {math.MinInt, 1}, {1, math.MinInt}, {math.MaxInt, 1}, {math.MaxInt, math.MaxInt}} {
		wantRead(t, v, "/h", x[0], x[1], "", api.ErrArg)
	}
	for at := range 4 {
		for n := range 5 {
			wantRead(t, v, "/h", at, n, "xyz"[at:min(3, at+n)], api.OK)
		}
		wantRead(t, v, "/h", at, math.MaxInt, "xyz"[at:], api.OK)
	}
	wantRead(t, v, "/d/g", 0, 0, "", api.OK)
	wantRead(t, v, "/d/g", 0, 1, "", api.OK)
	wantRead(t, v, "/d/g", 1, 0, "", api.ErrArg)
}

func TestListAndStatOfEach(t *testing.T) {
	_, v := tree(t)
	for _, path := range []string{"/n", "/h/n", "/d/n"} {
		wantList(t, v, path, api.ErrVolumeNone)
		wantStat(t, v, path, false, 0, api.ErrVolumeNone)
	}
	wantList(t, v, "/h", api.ErrVolumeKind)
	wantList(t, v, "/d/e/f", api.ErrVolumeKind)
	wantStat(t, v, "/h", false, 3, api.OK)
	wantStat(t, v, "/d/g", false, 0, api.OK)
	wantStat(t, v, "/d/e/f", false, 3, api.OK)
	for path, l := range map[string][]string{"/": {"d", "e", "h"}, "/d": {"e", "g"}, "/d/e": {"f"}, "/e": nil} {
		wantList(t, v, path, api.OK, l...)
		wantStat(t, v, path, true, len(l), api.OK)
	}
}

// Names rise byte by byte, whatever the order of the paths is in which they were made.
func TestListRises(t *testing.T) {
	v := empty(t, 10)
	names := []string{"b", "a0", "a-", "a", "a.", "z", "aa", "0", "-", "_", "...", "a_"}
	want(t, "Mkdir", v.Mkdir("/q"), api.OK)
	for i, name := range names {
		do := []func(string) api.Errno{v.Mkdir, v.Create}[i%2]
		want(t, "making one", do("/q/"+name), api.OK)
		if i%2 == 0 {
			want(t, "Create", v.Create("/q/"+name+"/in"), api.OK)
		}
	}
	wantStat(t, v, "/q", true, len(names), api.OK)
	slices.Sort(names)
	wantList(t, v, "/q", api.OK, names...)
	wantList(t, v, "/", api.OK, "q")
}

// A new image may fill the room, and have no byte more.
func TestFull(t *testing.T) {
	for cells := 1; cells <= 3; cells++ {
		for _, path := range []string{"/a", "/ab"} {
			j, v := filled(t, cells, 4+len(path))
			want(t, "Create", v.Create(path), api.OK)
			wantInt(t, "Free", v.Free(), 0)
			wantReopened(t, j, v)

			for _, do := range []func(v *volume.Volume) api.Errno{
				func(v *volume.Volume) api.Errno { return v.Create(path) },
				func(v *volume.Volume) api.Errno { return v.Mkdir(path) },
				func(v *volume.Volume) api.Errno { return v.Write("/f", 0, strings.Repeat("w", 116*cells-8+1)) },
				func(v *volume.Volume) api.Errno { return v.Rename("/f", "/f"+strings.Repeat("f", 3+len(path)+1)) },
			} {
				j, v := filled(t, cells, 3+len(path))
				before, next := v.Entries(), j.Next()
				want(t, "what has too many bytes", do(v), api.ErrVolumeFull)
				wantEntries(t, v, before...)
				wantInt(t, "Next", j.Next(), next)
				wantInt(t, "Free", v.Free(), 3+len(path))
				wantReopened(t, j, v)
			}
			_, v = filled(t, cells, 3)
			want(t, "Rename", v.Rename("/f", "/ffff"), api.OK)
			want(t, "Remove", v.Remove("/ffff"), api.OK)
			wantInt(t, "Free", v.Free(), 116*cells-2)
		}
	}
}

// filled is a volume with a file that leaves so many bytes.
func filled(t *testing.T, cells, free int) (*journal.Journal, *volume.Volume) {
	t.Helper()
	_, j, v := opened(t, cells, imageOf(fileOf("/f", strings.Repeat("x", 116*cells-8-free))))
	wantInt(t, "Free", v.Free(), free)
	return j, v
}

// All that is refused comes ahead of the room.
func TestFullComesLast(t *testing.T) {
	_, v := filled(t, 1, 0)
	want(t, "Create", v.Create("/f"), api.ErrVolumeDone)
	want(t, "Mkdir", v.Mkdir("/a/b"), api.ErrVolumeNone)
	want(t, "Create", v.Create("/f/b"), api.ErrVolumeKind)
	want(t, "Write", v.Write("/f", 200, "x"), api.ErrArg)
	want(t, "Write", v.Write("/f", 0, strings.Repeat("x", 1025)), api.ErrVolumeLong)
	want(t, "Write", v.Write("/f", 108, "x"), api.ErrVolumeFull)
	want(t, "Rename", v.Rename("/f", "/abc/d"), api.ErrVolumeNone)
	want(t, "Write", v.Write("/f", 107, "x"), api.OK)
	want(t, "Rename", v.Rename("/f", "/a"), api.OK)
}

// As many as there may be: their number has two bytes.
func TestManyEntries(t *testing.T) {
	_, j, v := opened(t, 40, "")
	const letters = "abcdefghijklmnopqrstuvwxyz0123456789._-"
	n := 0
	e := api.OK
	for i := 0; e == api.OK; i++ {
		path := "/" + string(letters[i%38]) + string(letters[i/38])
		if e = v.Create(path); e == api.OK {
			n++
		}
	}
	want(t, "the last", e, api.ErrVolumeFull)
	wantInt(t, "how many", n, 4638/7)
	wantInt(t, "Free", v.Free(), 4638%7)
	wantStat(t, v, "/", true, n, api.OK)
	wantReopened(t, j, v)
	s, _ := j.Read(0)
	wantInt(t, "their number", int(s[0])<<8|int(s[1]), n)
}

// wroteCells are those that a call's transaction writes, in its order; none, if there is no transaction.
func wroteCells(t *testing.T, d *disk.Disk, j *journal.Journal, call func() api.Errno) []int {
	t.Helper()
	want(t, "Checkpoint", j.Checkpoint(), api.OK)
	next := j.Next()
	want(t, "a call", call(), api.OK)
	if j.Next() == next {
		return nil
	}
	wantInt(t, "Next", j.Next(), next+1)
	s, e := d.Read(2)
	want(t, "Read of the record", e, api.OK)
	l := make([]int, s[0])
	for i := range l {
		l[i] = int(s[1+2*i])<<8 | int(s[2+2*i])
	}
	return l
}

func TestWhichCellsAreWritten(t *testing.T) {
	x := strings.Repeat("abcdefghijklmnopqrs", 32)[:400]
	d, j, v := opened(t, 6, imageOf(fileOf("/f", x)))
	midst := func() string {
		s, _ := v.Read("/f", 101, 200)
		return s
	}
	for _, c := range []struct {
		what string
		do   func() api.Errno
		l    []int
	}{
		{"the same bytes", func() api.Errno { return v.Write("/f", 0, x[:300]) }, nil},
		{"no bytes", func() api.Errno { return v.Write("/f", 7, "") }, nil},
		{"the last byte of a cell", func() api.Errno { return v.Write("/f", 107, "w") }, []int{0}},
		{"the first byte of a cell", func() api.Errno { return v.Write("/f", 108, "w") }, []int{1}},
		{"two bytes", func() api.Errno { return v.Write("/f", 223, "ww") }, []int{1, 2}},
		{"bytes that are the same in the midst", func() api.Errno { return v.Write("/f", 100, "w"+midst()+"w") }, []int{0, 2}},
		{"a file behind", func() api.Errno { return v.Create("/g") }, []int{0, 3}},
		{"a file ahead", func() api.Errno { return v.Create("/a") }, []int{0, 1, 2, 3}},
		{"its end", func() api.Errno { return v.Remove("/a") }, []int{0, 1, 2, 3}},
		{"longer", func() api.Errno { return v.Write("/f", 400, x[:200]) }, []int{0, 3, 4, 5}},
		{"the end of what is behind", func() api.Errno { return v.Remove("/g") }, []int{0, 5}},
		{"its end", func() api.Errno { return v.Remove("/f") }, []int{0, 1, 2, 3, 4, 5}},
		{"a directory", func() api.Errno { return v.Mkdir("/d") }, []int{0}},
		{"a Sync", v.Sync, nil},
	} {
		if l := wroteCells(t, d, j, c.do); !slices.Equal(l, c.l) {
			t.Errorf("%s: the cells %v, not %v", c.what, l, c.l)
		}
	}
}

// Behind a Sync all is safe, ahead of it nothing needs to be.
func TestSyncMakesSafe(t *testing.T) {
	d, _, v := opened(t, 3, "")
	want(t, "Mkdir", v.Mkdir("/a"), api.OK)
	wantEntries(t, reopened(t, d.After(nil), 3))
	want(t, "Sync", v.Sync(), api.OK)
	wantEntries(t, reopened(t, d.After(nil), 3), dir("/a"))
	wantInt(t, "what is unsafe", len(d.Waiting()), 0)
}

// reopened is the volume of a disk's image.
func reopened(t *testing.T, image string, cells int) *volume.Volume {
	t.Helper()
	d, e := disk.New(image)
	want(t, "disk.New", e, api.OK)
	j, e := journal.Open(devOf(t, d), areaOf(cells))
	want(t, "journal.Open", e, api.OK)
	v, e := volume.Open(j)
	want(t, "Open", e, api.OK)
	return v
}

// A journal whose numbers are at their end takes no transaction: its error is told, and nothing is changed.
func TestTheJournalsLastNumber(t *testing.T) {
	const most = 1 << 62
	head, _ := block.Bytes(string(binary.BigEndian.AppendUint64(nil, most)), 2)
	blank, _ := block.Bytes("", 0)
	d, e := disk.New(head + strings.Repeat(blank, 4))
	want(t, "disk.New", e, api.OK)
	j, e := journal.Open(devOf(t, d), 4)
	want(t, "journal.Open", e, api.OK)
	v, e := volume.Open(j)
	want(t, "Open", e, api.OK)
	want(t, "Create", v.Create("/a"), api.ErrJournalForm)
	wantEntries(t, v)
	wantInt(t, "Free", v.Free(), 114)
	if v.Dead() {
		t.Error("it is dead")
	}
}

// wantDead holds a dead volume against what it had.
func wantDead(t *testing.T, v *volume.Volume, free int, l ...api.Entry) {
	t.Helper()
	if !v.Dead() {
		t.Error("not dead")
	}
	want(t, "Mkdir", v.Mkdir("a"), api.ErrDead)
	want(t, "Create", v.Create("/d"), api.ErrDead)
	want(t, "Write", v.Write("/n", 0, ""), api.ErrDead)
	want(t, "Write of nothing", v.Write("/h", 0, ""), api.ErrDead)
	want(t, "Remove", v.Remove("/"), api.ErrDead)
	want(t, "Rename", v.Rename("", ""), api.ErrDead)
	want(t, "Sync", v.Sync(), api.ErrDead)
	wantRead(t, v, "/h", 0, 1, "", api.ErrDead)
	wantRead(t, v, "", 0, -1, "", api.ErrDead)
	wantList(t, v, "/", api.ErrDead)
	wantStat(t, v, "/", false, 0, api.ErrDead)
	wantEntries(t, v, l...)
	wantInt(t, "Free", v.Free(), free)
}

func TestDeadForGood(t *testing.T) {
	for what, do := range map[string]func(v *volume.Volume) api.Errno{
		"Mkdir":  func(v *volume.Volume) api.Errno { return v.Mkdir("/a") },
		"Create": func(v *volume.Volume) api.Errno { return v.Create("/e/a") },
		"Write":  func(v *volume.Volume) api.Errno { return v.Write("/h", 1, "w") },
		"Remove": func(v *volume.Volume) api.Errno { return v.Remove("/e") },
		"Rename": func(v *volume.Volume) api.Errno { return v.Rename("/h", "/i") },
		"Sync":   (*volume.Volume).Sync,
	} {
		d, j, v := opened(t, 3, imageOf(dirOf("/e"), fileOf("/h", "xyz")))
		want(t, "Arm", d.Arm(1, nil), api.OK)
		want(t, what, do(v), api.ErrDead)
		wantDead(t, v, 348-2-6-9, dir("/e"), file("/h", "xyz"))
		wantDead(t, v.Clone(j.Clone(devOf(t, d))), 348-2-6-9, dir("/e"), file("/h", "xyz"))
		d.Revive()
		wantDead(t, v, 348-2-6-9, dir("/e"), file("/h", "xyz"))
	}
}

// What asks nothing of the disk is answered though the power is gone, as long as it went in no call of the volume's.
func TestPowerGoesBetweenCalls(t *testing.T) {
	d, _, v := opened(t, 3, imageOf(dirOf("/e"), fileOf("/h", "xyz")))
	want(t, "Crash", d.Crash(nil), api.OK)
	wantRead(t, v, "/h", 1, 1, "y", api.OK)
	wantList(t, v, "/", api.OK, "e", "h")
	wantStat(t, v, "/h", false, 3, api.OK)
	want(t, "Write of what is there", v.Write("/h", 1, "yz"), api.OK)
	want(t, "Mkdir", v.Mkdir("/e"), api.ErrVolumeDone)
	want(t, "Write", v.Write("/h", 0, strings.Repeat("x", 900)), api.ErrVolumeFull)
	if v.Dead() {
		t.Error("dead, though the power went in none of its calls")
	}
	want(t, "Remove", v.Remove("/e"), api.ErrDead)
	wantDead(t, v, 348-2-6-9, dir("/e"), file("/h", "xyz"))
}

// P17.3

func TestAnswersAreNewMemory(t *testing.T) {
	_, v := tree(t)
	entries := v.Entries()
	clear(entries)
	clear(entries[:cap(entries)])
	names, _ := v.List("/")
	clear(names[:cap(names)])
	wantList(t, v, "/", api.OK, "d", "e", "h")
	wantInt(t, "entries", len(v.Entries()), 6)
	wantRead(t, v, "/h", 0, 3, "xyz", api.OK)
}

func TestClones(t *testing.T) {
	d, j, v := opened(t, 6, imageOf(dirOf("/e"), fileOf("/h", "xyz")))
	d2 := d.Clone()
	j2 := j.Clone(devOf(t, d2))
	c := v.Clone(j2)
	wantEntries(t, c, v.Entries()...)
	wantInt(t, "Free", c.Free(), v.Free())

	want(t, "Write", v.Write("/h", 0, "one"), api.OK)
	want(t, "Create", v.Create("/e/a"), api.OK)
	wantEntries(t, c, dir("/e"), file("/h", "xyz"))
	want(t, "Remove", c.Remove("/e"), api.OK)
	want(t, "Write", c.Write("/h", 3, "two"), api.OK)
	wantEntries(t, v, dir("/e"), file("/e/a", ""), file("/h", "one"))
	wantEntries(t, c, file("/h", "xyztwo"))
	wantCells(t, j, imageOf(dirOf("/e"), fileOf("/e/a", ""), fileOf("/h", "one")))
	wantCells(t, j2, imageOf(fileOf("/h", "xyztwo")))

	want(t, "Crash", d.Crash(nil), api.OK)
	want(t, "Sync", v.Sync(), api.ErrDead)
	want(t, "Sync", c.Sync(), api.OK)
	if c.Dead() || !v.Dead() {
		t.Error("the clone is dead with its original")
	}
}
