package journal_test

import (
	"encoding/binary"
	"hash/crc32"
	"math"
	"slices"
	"strconv"
	"strings"
	"testing"

	"castellan/api"
	"castellan/block"
	"castellan/disk"
	"castellan/journal"
)

// most is the greatest number.
const most = 1 << 62

func noughts(n int) string { return strings.Repeat("\x00", n) }

// full is data with noughts behind them, up to 116 bytes.
func full(data string) string { return data + noughts(116-len(data)) }

// sector is a block's, with the library's sum.
func sector(data string, stamp int) string {
	b := []byte(full(data))
	b = binary.BigEndian.AppendUint32(b, crc32.ChecksumIEEE(b))
	return string(binary.BigEndian.AppendUint64(b, uint64(stamp)))
}

// unsummed is a sector whose sum is not that of its data.
func unsummed(stamp int) string {
	b := []byte(sector("unsummed", stamp))
	b[0]++
	return string(b)
}

// headData are those of a head.
func headData(first int) string {
	return full(string(binary.BigEndian.AppendUint64(nil, uint64(first))))
}

func head(number, first int) string { return sector(headData(first), number) }

// cellsData are the first ones of a record.
func cellsData(cells ...int) string {
	b := []byte{byte(len(cells))}
	for _, c := range cells {
		b = binary.BigEndian.AppendUint16(b, uint16(c))
	}
	return full(string(b))
}

// record are a record's sectors.
func record(number int, l ...api.Write) string {
	var cells []int
	s := ""
	for _, w := range l {
		cells = append(cells, w.Cell)
		s += sector(w.Data, number)
	}
	return sector(cellsData(cells...), number) + s
}

func w(cell int, data string) api.Write { return api.Write{Cell: cell, Data: data} }

// writes are n, of the cells from 0 on.
func writes(n int, data string) []api.Write {
	var l []api.Write
	for i := range n {
		l = append(l, w(i, data))
	}
	return l
}

// homes are n sectors as Format leaves them.
func homes(n int) string { return strings.Repeat(sector("", 0), n) }

func diskOf(t *testing.T, image string) *disk.Disk {
	t.Helper()
	d, e := disk.New(image)
	if d == nil || e != api.OK {
		t.Fatalf("disk.New: %v, %d", d != nil, e)
	}
	return d
}

func blank(t *testing.T, n int) *disk.Disk {
	t.Helper()
	return diskOf(t, noughts(128*n))
}

func devOf(t *testing.T, d *disk.Disk, first, count, cache int) *block.Dev {
	t.Helper()
	v, e := block.New(d, first, count, cache)
	if v == nil || e != api.OK {
		t.Fatalf("block.New: %v, %d", v != nil, e)
	}
	return v
}

// whole is the extent of a whole disk.
func whole(t *testing.T, d *disk.Disk) *block.Dev {
	t.Helper()
	return devOf(t, d, 0, d.Count(), 0)
}

// formatted is a new journal on a disk of its own.
func formatted(t *testing.T, blocks, area int) (*disk.Disk, *journal.Journal) {
	t.Helper()
	d := blank(t, blocks)
	j, e := journal.Format(whole(t, d), area)
	if j == nil || e != api.OK {
		t.Fatalf("Format of %d blocks, area %d: %v, %d", blocks, area, j != nil, e)
	}
	return d, j
}

// opened is the journal of an image.
func opened(t *testing.T, image string, area int) (*disk.Disk, *journal.Journal) {
	t.Helper()
	d := diskOf(t, image)
	j, e := journal.Open(whole(t, d), area)
	if j == nil || e != api.OK {
		t.Fatalf("Open: %v, %d", j != nil, e)
	}
	return d, j
}

func want(t *testing.T, what string, got, e api.Errno) {
	t.Helper()
	if got != e {
		t.Errorf("%s: %d, not %d", what, got, e)
	}
}

func wantInt(t *testing.T, what string, got, n int) {
	t.Helper()
	if got != n {
		t.Errorf("%s: %d, not %d", what, got, n)
	}
}

func wantRead(t *testing.T, j *journal.Journal, cell int, data string, e api.Errno) {
	t.Helper()
	if e == api.OK {
		data = full(data)
	}
	if got, ge := j.Read(cell); got != data || ge != e {
		t.Errorf("Read(%d): %.20q, %d, not %.20q, %d", cell, got, ge, data, e)
	}
}

func wantFormat(t *testing.T, v *block.Dev, area int, e api.Errno) {
	t.Helper()
	if j, got := journal.Format(v, area); got != e || (j != nil) != (e == api.OK) {
		t.Errorf("Format of %d blocks, area %d: %v, %d, not %d", v.Count(), area, j != nil, got, e)
	}
}

func wantOpen(t *testing.T, v *block.Dev, area int, e api.Errno) {
	t.Helper()
	if j, got := journal.Open(v, area); got != e || (j != nil) != (e == api.OK) {
		t.Errorf("Open of %d blocks, area %d: %v, %d, not %d", v.Count(), area, j != nil, got, e)
	}
}

// wantImage holds a disk's sectors against others, one by one.
func wantImage(t *testing.T, got, image string) {
	t.Helper()
	if len(got) != len(image) {
		t.Fatalf("%d bytes, not %d", len(got), len(image))
	}
	for at := 0; at < len(got); at += 128 {
		if got[at:at+128] != image[at:at+128] {
			t.Errorf("sector %d: %q, not %q", at/128, got[at:at+128], image[at:at+128])
		}
	}
}

// everything are choices that leave all as it was written.
func everything() []int { return slices.Repeat([]int{128}, 4096) }

// far are numbers that are far from all that may be.
var far = []int{math.MinInt, math.MinInt + 1, -1 << 32, -65536, 1 << 32, 1<<32 + 1, math.MaxInt - 1, math.MaxInt}

// A step is what is done by one change: it is written, or all is made safe.
type step struct {
	at int // below 0: a barrier
	s  string
}

var barrier = step{-1, ""}

// wantSteps holds what a call changes against steps: the power goes in each one of them in turn, all that was written being left, or nothing of it. The call answers ErrDead in each, and is left alone behind them.
func wantSteps(t *testing.T, d *disk.Disk, call func(d *disk.Disk) api.Errno, steps ...step) {
	t.Helper()
	for n := range len(steps) + 1 {
		for _, choices := range [][]int{everything(), nil} {
			c, expect := d.Clone(), d.Clone()
			want(t, "Arm", c.Arm(n+1, choices), api.OK)
			want(t, "Arm", expect.Arm(n+1, choices), api.OK)
			for i, s := range steps {
				if i > n {
					break
				}
				if s.at < 0 {
					expect.Flush(0, expect.Count())
				} else {
					expect.Write(s.at, s.s)
				}
			}
			e := api.ErrDead
			if n == len(steps) {
				e = api.OK
			}
			want(t, "the call of which the change "+strconv.Itoa(n+1)+" is the last", call(c), e)
			wantImage(t, c.Image(), expect.Image())
			wantImage(t, c.Safe(), expect.Safe())
			if c.Dead() != expect.Dead() || !slices.Equal(c.Waiting(), expect.Waiting()) {
				t.Errorf("change %d: dead %v, waiting %v, not %v, %v", n+1, c.Dead(), c.Waiting(), expect.Dead(), expect.Waiting())
			}
		}
	}
}

// stepsOf calls a journal's over a clone of its disk.
func stepsOf(t *testing.T, j *journal.Journal, call func(j *journal.Journal) api.Errno) func(d *disk.Disk) api.Errno {
	return func(d *disk.Disk) api.Errno {
		return call(j.Clone(whole(t, d)))
	}
}

// The chapter's examples.

func TestExampleOfForms(t *testing.T) {
	v := whole(t, blank(t, 8))
	wantFormat(t, v, 3, api.ErrJournalForm)
	wantFormat(t, v, 8, api.ErrJournalForm)
	wantOpen(t, v, 5, api.ErrJournalForm)
}

func TestExampleOfCalls(t *testing.T) {
	d, j := formatted(t, 8, 5)
	wantInt(t, "Room", j.Room(), 2)
	wantInt(t, "Next", j.Next(), 1)
	want(t, "Commit", j.Commit([]api.Write{w(0, "a"), w(1, "b")}), api.OK)
	wantInt(t, "Room", j.Room(), 0)
	wantInt(t, "Next", j.Next(), 2)
	wantRead(t, j, 1, "b", api.OK)

	want(t, "Commit of three", j.Commit(writes(3, "c")), api.ErrJournalLong)
	want(t, "Commit of one twice", j.Commit([]api.Write{w(0, "x"), w(0, "y")}), api.ErrJournalAt)
	want(t, "Commit of none", j.Commit([]api.Write{w(3, "x")}), api.ErrJournalAt)

	want(t, "Commit", j.Commit([]api.Write{w(2, "c")}), api.OK)
	wantImage(t, d.Image(), head(2, 1)+head(3, 2)+record(2, w(2, "c"))+sector("b", 1)+sector("a", 0)+sector("b", 0)+sector("", 0))

	want(t, "Crash", d.Crash(nil), api.OK)
	d.Revive()
	j, e := journal.Open(whole(t, d), 5)
	want(t, "Open", e, api.OK)
	wantRead(t, j, 0, "a", api.OK)
	wantRead(t, j, 2, "", api.OK)
}

// P16.1

func TestFormatOfAreas(t *testing.T) {
	for blocks := 1; blocks <= 9; blocks++ {
		for area := -2; area <= 11; area++ {
			e := api.ErrJournalForm
			if area >= 4 && area <= blocks-1 {
				e = api.OK
			}
			d := blank(t, blocks)
			wantFormat(t, whole(t, d), area, e)
			if e != api.OK {
				wantImage(t, d.Image(), noughts(128*blocks))
			}
		}
		for _, area := range far {
			wantFormat(t, whole(t, blank(t, blocks)), area, api.ErrJournalForm)
		}
	}
}

func TestFormatOfTheGreatestDisk(t *testing.T) {
	d, j := formatted(t, 4096, 4)
	wantInt(t, "Cells", j.Cells(), 4092)
	want(t, "Commit", j.Commit([]api.Write{w(4091, "last")}), api.OK)
	wantRead(t, j, 4091, "last", api.OK)
	want(t, "Sync", j.Sync(), api.OK)
	_, j = opened(t, d.Image(), 4)
	wantRead(t, j, 4091, "last", api.OK)

	_, j = formatted(t, 4096, 4095)
	wantInt(t, "Cells", j.Cells(), 1)
	wantInt(t, "Most", j.Most(), 40)
	wantInt(t, "Room", j.Room(), 40)
}

// What stood there has no say, and what stands beside it stays.
func TestFormatOfWhatWasThere(t *testing.T) {
	there := head(8, 3) + head(9, 4) + record(4, w(0, "old")) + sector("old", 77) + unsummed(5) + noughts(128) + sector("old", most)
	d := diskOf(t, sector("ahead", 1)+there+sector("behind", 2))
	v := devOf(t, d, 1, 8, 0)
	j, e := journal.Format(v, 5)
	want(t, "Format", e, api.OK)
	wantImage(t, d.Safe(), sector("ahead", 1)+head(2, 1)+homes(7)+sector("behind", 2))
	for cell := range 3 {
		wantRead(t, j, cell, "", api.OK)
	}
	wantInt(t, "Next", j.Next(), 1)
	wantInt(t, "Room", j.Room(), 2)
	if j.Dead() {
		t.Error("Dead")
	}
}

func TestFormatStepByStep(t *testing.T) {
	d := diskOf(t, strings.Repeat(sector("old", 9), 7))
	steps := []step{{0, head(2, 1)}}
	for at := 1; at < 7; at++ {
		steps = append(steps, step{at, sector("", 0)})
	}
	wantSteps(t, d, func(d *disk.Disk) api.Errno {
		j, e := journal.Format(whole(t, d), 4)
		if (j != nil) != (e == api.OK) {
			t.Errorf("Format: %v, %d", j != nil, e)
		}
		return e
	}, append(steps, barrier)...)
}

// The barrier is that of the extent alone.
func TestBarrierOfTheExtent(t *testing.T) {
	d := blank(t, 9)
	for _, at := range []int{0, 8} {
		want(t, "Write", d.Write(at, sector("other", 1)), api.OK)
	}
	j, e := journal.Format(devOf(t, d, 1, 7, 0), 4)
	want(t, "Format", e, api.OK)
	want(t, "Commit", j.Commit(writes(1, "x")), api.OK)
	want(t, "Sync", j.Sync(), api.OK)
	if !slices.Equal(d.Waiting(), []int{0, 8}) {
		t.Errorf("Waiting: %v", d.Waiting())
	}
}

func TestFormatOfADeadDisk(t *testing.T) {
	d := blank(t, 8)
	want(t, "Crash", d.Crash(nil), api.OK)
	wantFormat(t, whole(t, d), 5, api.ErrDead)
	wantFormat(t, whole(t, d), 3, api.ErrJournalForm)
	wantFormat(t, whole(t, d), 8, api.ErrJournalForm)
	d.Revive()
	wantImage(t, d.Image(), noughts(8*128))
}

// P16.2

func TestOpenOfAreas(t *testing.T) {
	for blocks := 1; blocks <= 9; blocks++ {
		image := (head(2, 1) + homes(8))[:128*blocks]
		for area := -2; area <= 11; area++ {
			e := api.ErrJournalForm
			if area >= 4 && area <= blocks-1 {
				e = api.OK
			}
			d := diskOf(t, image)
			wantOpen(t, whole(t, d), area, e)
			wantImage(t, d.Image(), image)
		}
		for _, area := range far {
			wantOpen(t, whole(t, diskOf(t, image)), area, api.ErrJournalForm)
		}
	}
}

func TestOpenOfADeadDisk(t *testing.T) {
	for _, image := range []string{head(2, 1) + homes(7), noughts(8 * 128)} {
		d := diskOf(t, image)
		want(t, "Crash", d.Crash(nil), api.OK)
		for _, area := range []int{5, 3, 8, math.MinInt} {
			wantOpen(t, whole(t, d), area, api.ErrDead)
		}
	}
}

// heads are what may stand in the blocks 0 and 1, and of what number a head each is: 0, if of none.
func heads(at int) map[string]int {
	long := []byte(headData(5))
	long[115] = 1
	ninth := []byte(headData(5))
	ninth[8] = 1
	return map[string]int{
		noughts(128):                     0,
		unsummed(4 + at):                 0,
		sector("", 4+at):                 0, // its first is 0
		head(at, 5):                      0, // 0 and 1 are no heads' numbers
		head(5-at, 5):                    0, // the other block's
		head(100000+1-at, 5):             0,
		head(4+at, most+1):               0,
		head(4+at, -1):                   0,
		head(4+at, math.MinInt):          0,
		sector(string(long), 4+at):       0,
		sector(string(ninth), 4+at):      0,
		sector(headData(5), most+2+at):   0,
		sector(headData(5), -2+at):       0,
		head(2+at, 5):                    2 + at,
		head(4+at, 6):                    4 + at,
		head(100+at, most):               100 + at,
		head(most-2+at, 7):               most - 2 + at,
		head(1<<40+at, 1<<40):            1<<40 + at,
		head(6+at, 0x0102030405060708):   6 + at,
		head(4+at, 5)[:120] + noughts(8): 0,
	}
}

// firstOf is what a head's sector tells.
func firstOf(s string) int { return int(binary.BigEndian.Uint64([]byte(s))) }

func TestWhichHeadCounts(t *testing.T) {
	for zero, m := range heads(0) {
		for one, n := range heads(1) {
			image := zero + one + homes(5)
			d := diskOf(t, image)
			j, e := journal.Open(whole(t, d), 5)
			wantImage(t, d.Image(), image)
			if m == 0 && n == 0 {
				if j != nil || e != api.ErrJournalForm {
					t.Errorf("Open without a head (%q, %q): %v, %d", zero, one, j != nil, e)
				}
				continue
			}
			first := firstOf(zero)
			if n > m {
				first = firstOf(one)
			}
			if e != api.OK || j.Next() != first {
				t.Errorf("Open of the heads %d and %d: %d, Next %d, not %d", m, n, e, j.Next(), first)
			}
		}
	}
}

// A head that lies in the block of the greatest number.
func TestOpenOfTheGreatestHead(t *testing.T) {
	d, j := opened(t, head(most, 5)+head(3, 9)+homes(5), 5)
	wantInt(t, "Next", j.Next(), 5)
	wantImage(t, d.Image(), head(most, 5)+head(3, 9)+homes(5))
}

// Stamps of blocks that no record may have; they are asked for in the area alone.
func TestOpenOfStampsThatAreNone(t *testing.T) {
	for at := range 8 {
		for _, none := range []string{sector("x", most+1), sector("x", -1), unsummed(most + 1), sector("x", math.MinInt)} {
			image := []byte(head(2, 1) + homes(7))
			copy(image[128*at:], none)
			e := api.ErrJournalForm
			if at == 1 || at > 4 {
				e = api.OK
			}
			d := diskOf(t, string(image))
			wantOpen(t, whole(t, d), 5, e)
			wantImage(t, d.Image(), string(image))
		}
	}
}

// Below the first nothing is written, whatever the blocks are; from it on all is.
func TestOpenOfStampsAroundTheFirst(t *testing.T) {
	for at := 2; at < 5; at++ {
		for _, stamp := range []int{0, 1, 6, 7, 8, 9, 1 << 40, most - 1} {
			for _, s := range []string{unsummed(stamp), sector("x", stamp), sector(cellsData(0), stamp)} {
				image := []byte(head(2, 1) + head(5, 7) + homes(6))
				copy(image[128*at:], s)
				d, j := opened(t, string(image), 5)
				if stamp < 7 {
					wantImage(t, d.Image(), string(image))
					wantInt(t, "Next", j.Next(), 7)
				} else {
					copy(image, head(6, stamp+1))
					wantImage(t, d.Safe(), string(image))
					wantInt(t, "Next", j.Next(), stamp+1)
				}
				wantInt(t, "Room", j.Room(), 2)
			}
		}
	}
	// The blocks behind the area, and the heads, are not asked for.
	image := head(100, 7) + head(5, 6) + homes(3) + sector("x", 9) + unsummed(8) + sector("y", most)
	d, j := opened(t, image, 5)
	wantImage(t, d.Image(), image)
	wantInt(t, "Next", j.Next(), 7)
	wantRead(t, j, 2, "y", api.OK)
}

func TestOpenOfTheLastNumbers(t *testing.T) {
	for _, image := range []string{
		head(2, 1) + homes(2) + unsummed(most) + homes(4),
		head(2, most) + homes(2) + unsummed(most) + homes(4),
		head(most, 1) + homes(2) + unsummed(1) + homes(4),
		head(most, 1) + homes(1) + record(1, w(0, "x")) + homes(4),
		head(most, 7) + homes(1) + homes(2) + unsummed(most) + homes(3),
	} {
		d := diskOf(t, image)
		wantOpen(t, whole(t, d), 5, api.ErrJournalForm)
		wantImage(t, d.Image(), image)
		wantInt(t, "Waiting", len(d.Waiting()), 0)
	}
	for _, image := range []string{head(most, most) + homes(7), head(2, most) + homes(1) + unsummed(most-1) + homes(5), head(most, 2) + homes(1) + unsummed(1) + homes(5)} {
		d, _ := opened(t, image, 5)
		wantImage(t, d.Image(), image)
	}
	// The last number but one of each is one behind which the last may be.
	image := head(most-2, 1) + head(most-1, most-1) + record(most-1, w(0, "x")) + homes(4)
	d, j := opened(t, image, 5)
	wantImage(t, d.Safe(), head(most, most)+head(most-1, most-1)+record(most-1, w(0, "x"))+homes(1)+sector("x", 0)+homes(2))
	wantInt(t, "Next", j.Next(), most)
	want(t, "Commit", j.Commit(writes(1, "y")), api.ErrJournalForm)
	want(t, "Checkpoint", j.Checkpoint(), api.ErrJournalForm)
}

// ofRecords is an image of one area of 12, with 4 cells, whose first is 5, with these sectors from the block 2 on.
func ofRecords(sectors string) string {
	s := sectors + strings.Repeat(sector("rest", 4), 10)
	return head(2, 1) + head(3, 5) + s[:10*128] + sector("w", 1) + sector("x", 2) + sector("y", 3) + sector("z", 4)
}

func wantCells(t *testing.T, j *journal.Journal, l ...string) {
	t.Helper()
	wantInt(t, "Cells", j.Cells(), len(l))
	for i, data := range l {
		wantRead(t, j, i, data, api.OK)
	}
}

func TestRecordsThatCount(t *testing.T) {
	one, two := record(5, w(1, "a"), w(3, "b")), record(6, w(3, "c"))
	torn := []byte(one)
	torn[0] = 9
	for _, c := range []struct {
		what, sectors string
		cells         []string
		next          int // 0: nothing is written
	}{
		{"none", "", []string{"w", "x", "y", "z"}, 0},
		{"one", one, []string{"w", "a", "y", "b"}, 6},
		{"two", one + two, []string{"w", "a", "y", "c"}, 7},
		{"the first twice", one + one, []string{"w", "a", "y", "b"}, 6},
		{"the second alone", two, []string{"w", "x", "y", "z"}, 7},
		{"a gap of one block", one + sector("gap", 0) + two, []string{"w", "a", "y", "b"}, 7},
		{"a block ahead of the first", sector("gap", 0) + one, []string{"w", "x", "y", "z"}, 6},
		{"a torn first one ahead of a whole one", string(torn) + two, []string{"w", "x", "y", "z"}, 7},
		{"one of an earlier life behind", one + record(4, w(0, "old")), []string{"w", "a", "y", "b"}, 6},
		{"one of a later number behind", one + record(7, w(0, "new")), []string{"w", "a", "y", "b"}, 8},
		{"the last block is missing", one[:256] + sector("b", 4), []string{"w", "x", "y", "z"}, 6},
		{"the last block is of the next number", one[:256] + sector("b", 6), []string{"w", "x", "y", "z"}, 7},
		{"the last block can't be read", one[:256] + unsummed(5), []string{"w", "x", "y", "z"}, 6},
		{"the middle block can't be read", one[:128] + unsummed(5) + one[256:], []string{"w", "x", "y", "z"}, 6},
		{"up to the last block", record(5, w(0, "a"), w(1, "b"), w(2, "c"), w(3, "d")) + record(6, w(3, "e"), w(2, "f"), w(0, "g"), w(1, "h")), []string{"g", "h", "f", "e"}, 7},
		{"a last one of one write too many", record(5, w(0, "a"), w(1, "b"), w(2, "c"), w(3, "d")) + record(6, w(3, "e"), w(2, "f"), w(0, "g")) + sector(cellsData(0), 7), []string{"g", "b", "f", "e"}, 8},
	} {
		image := ofRecords(c.sectors)
		d, j := opened(t, image, 12)
		wantCells(t, j, c.cells...)
		if c.next == 0 {
			wantImage(t, d.Image(), image)
			continue
		}
		wantInt(t, c.what+": Next", j.Next(), c.next)
		wantInt(t, c.what+": Room", j.Room(), 9)
		wantImage(t, d.Safe()[:128*12], head(4, c.next)+image[128:128*12])
		wantInt(t, c.what+": waiting", len(d.Waiting()), 0)
	}
}

// What a record's first data may be.
func TestRecordsFirstData(t *testing.T) {
	ninth, last := []byte(cellsData(0)), []byte(cellsData(0))
	ninth[3], last[115] = 1, 1
	for _, data := range []string{
		cellsData(), cellsData(4), cellsData(0, 4), cellsData(4, 0), cellsData(0, 0), cellsData(1, 0, 1), cellsData(65535), cellsData(256),
		string(ninth), string(last), "\x29" + cellsData(0)[1:], "\xff" + cellsData(0)[1:], "\x02" + cellsData(0)[1:], "\x00" + cellsData(1)[1:],
		strings.Repeat("\xff", 116),
	} {
		image := ofRecords(sector(data, 5) + strings.Repeat(sector("no", 5), 9))
		d, j := opened(t, image, 12)
		wantCells(t, j, "w", "x", "y", "z")
		wantImage(t, d.Safe(), head(4, 6)+image[128:])
	}
	for _, cells := range [][]int{{0}, {3}, {0, 3}, {3, 0}, {3, 1, 2, 0}} {
		_, j := opened(t, ofRecords(sector(cellsData(cells...), 5)+strings.Repeat(sector("yes", 5), 9)), 12)
		for i, data := range []string{"w", "x", "y", "z"} {
			if slices.Contains(cells, i) {
				data = "yes"
			}
			wantRead(t, j, i, data, api.OK)
		}
	}
}

// A record ends within the area, even if the homes behind it look as its blocks would.
func TestRecordsEndWithinTheArea(t *testing.T) {
	image := head(2, 1) + homes(1) + sector(cellsData(0, 1, 2), 1) + sector("a", 1) + sector("b", 1) + sector("c", 1) + sector("d", 0) + sector("e", 0)
	_, j := opened(t, image, 5)
	wantCells(t, j, "c", "d", "e")
	wantInt(t, "Next", j.Next(), 2)
	image = head(2, 1) + homes(1) + record(1, w(2, "a"), w(1, "b")) + record(2, w(0, "c")) + sector("d", 0)
	_, j = opened(t, image, 5)
	wantInt(t, "Next", j.Next(), 2)
	if _, e := j.Read(0); e != api.OK {
		t.Errorf("Read: %d", e)
	}
	wantRead(t, j, 1, "b", api.OK)
	wantRead(t, j, 2, "a", api.OK)
}

func TestRecordsOfFortyWrites(t *testing.T) {
	l := writes(40, "forty")
	slices.Reverse(l)
	for n, data := range map[int]string{40: "forty", 41: ""} {
		s := record(1, l...)
		if n == 41 {
			s = record(1, append(l, w(40, "more"))...)
		}
		image := head(2, 1) + homes(1) + s
		image += homes(50 - len(image)/128)
		_, j := opened(t, image+homes(42), 50)
		for cell := range 42 {
			if cell < 40 {
				wantRead(t, j, cell, data, api.OK)
			} else {
				wantRead(t, j, cell, "", api.OK)
			}
		}
	}
}

func TestOpenStepByStep(t *testing.T) {
	open := func(area int) func(d *disk.Disk) api.Errno {
		return func(d *disk.Disk) api.Errno {
			j, e := journal.Open(whole(t, d), area)
			if (j != nil) != (e == api.OK) {
				t.Errorf("Open: %v, %d", j != nil, e)
			}
			return e
		}
	}
	d := diskOf(t, ofRecords(record(5, w(3, "a"), w(1, "b"), w(2, "c"))+record(6, w(1, "d"))+unsummed(20)))
	wantSteps(t, d, open(12), barrier, step{13, sector("d", 0)}, step{14, sector("c", 0)}, step{15, sector("a", 0)}, barrier, step{0, head(4, 21)}, barrier)
	d = diskOf(t, head(4, 3)+noughts(128)+homes(2)+unsummed(3)+homes(2))
	wantSteps(t, d, open(5), barrier, barrier, step{1, head(5, 4)}, barrier)
	d = diskOf(t, head(4, 3)+noughts(128)+homes(2)+unsummed(2)+homes(2))
	wantSteps(t, d, open(5))
	// What waits on the disk from ahead of it is made safe first.
	d = diskOf(t, head(2, 1)+homes(6))
	for at, s := range []string{sector(cellsData(1), 1), sector("x", 1)} {
		want(t, "Write", d.Write(2+at, s), api.OK)
	}
	wantSteps(t, d, open(5), barrier, step{6, sector("x", 0)}, barrier, step{1, head(3, 2)}, barrier)
}

// P16.3

func TestCommitOfNone(t *testing.T) {
	d, j := formatted(t, 8, 5)
	want(t, "Commit", j.Commit(nil), api.OK)
	want(t, "Commit", j.Commit([]api.Write{}), api.OK)
	wantImage(t, d.Image(), head(2, 1)+homes(7))
	wantInt(t, "Next", j.Next(), 1)
	wantInt(t, "Waiting", len(d.Waiting()), 0)
}

func TestCommitOfTooMuch(t *testing.T) {
	long, longest := strings.Repeat("x", 117), strings.Repeat("y", 116)
	d, j := formatted(t, 12, 7)
	for _, l := range [][]api.Write{
		writes(5, "x"), writes(41, "x"), writes(300, "x"), {w(0, long)}, {w(0, "x"), w(1, long)}, {w(0, "x"), w(1, "y"), w(2, strings.Repeat(long, 100))},
		// It is told ahead of cells that are none.
		{w(-1, long)}, {w(0, ""), w(0, long)}, {w(5, ""), w(6, ""), w(7, ""), w(8, ""), w(9, "")},
	} {
		want(t, "Commit", j.Commit(l), api.ErrJournalLong)
	}
	wantImage(t, d.Image(), head(2, 1)+homes(11))
	want(t, "Commit", j.Commit(writes(4, longest)), api.OK)
	wantCells(t, j, longest, longest, longest, longest, "")
}

func TestCommitOfFortyAndMore(t *testing.T) {
	for area := 42; area <= 46; area++ {
		_, j := formatted(t, area+45, area)
		n := min(40, area-3)
		want(t, "Commit of one too many", j.Commit(writes(n+1, "x")), api.ErrJournalLong)
		want(t, "Commit", j.Commit(writes(n, "x")), api.OK)
		wantInt(t, "Most", j.Most(), n)
		wantInt(t, "Next", j.Next(), 2)
	}
}

func TestCommitOfCells(t *testing.T) {
	d, j := formatted(t, 12, 8)
	none := []int{-1, -2, 4, 5, 255, 256, 65535, 65536, 65537}
	for _, cell := range append(none, far...) {
		want(t, "Commit", j.Commit([]api.Write{w(cell, "x")}), api.ErrJournalAt)
		want(t, "Commit", j.Commit([]api.Write{w(0, "x"), w(cell, "x")}), api.ErrJournalAt)
		want(t, "Commit", j.Commit([]api.Write{w(cell, "x"), w(0, "x"), w(1, "y")}), api.ErrJournalAt)
		wantRead(t, j, cell, "", api.ErrJournalAt)
	}
	for _, cells := range [][]int{{0, 0}, {0, 1, 0}, {1, 0, 0}, {3, 3, 0}, {0, 1, 2, 3, 0}, {3, 2, 1, 0, 0}} {
		var l []api.Write
		for _, c := range cells {
			l = append(l, w(c, "x"))
		}
		want(t, "Commit", j.Commit(l), api.ErrJournalAt)
	}
	wantImage(t, d.Image(), head(2, 1)+homes(11))
	want(t, "Commit", j.Commit([]api.Write{w(3, "x"), w(0, "y"), w(2, "z")}), api.OK)
	wantCells(t, j, "y", "", "z", "x")
}

// What is committed is what it was, whatever becomes of the list; and the list stays.
func TestCommitKeepsNoList(t *testing.T) {
	_, j := formatted(t, 8, 5)
	room := []api.Write{w(0, "a"), w(1, "b"), w(2, "c")}
	want(t, "Commit", j.Commit(room[:2]), api.OK)
	if room[0] != w(0, "a") || room[1] != w(1, "b") || room[2] != w(2, "c") {
		t.Errorf("the list: %v", room)
	}
	room[0], room[1] = w(2, "x"), w(1, "y")
	wantCells(t, j, "a", "b", "")
}

func TestCommitOfTheLastNumber(t *testing.T) {
	image := head(2, most) + homes(7)
	d, j := opened(t, image, 5)
	wantInt(t, "Next", j.Next(), most)
	want(t, "Commit of none", j.Commit(nil), api.OK)
	want(t, "Commit of too many", j.Commit(writes(3, "x")), api.ErrJournalLong)
	want(t, "Commit of no cell", j.Commit([]api.Write{w(9, "x")}), api.ErrJournalAt)
	want(t, "Commit", j.Commit(writes(1, "x")), api.ErrJournalForm)
	wantImage(t, d.Image(), image)

	d, j = opened(t, head(2, most-1)+homes(7), 5)
	want(t, "Commit", j.Commit(writes(2, "x")), api.OK)
	wantImage(t, d.Image(), head(2, most-1)+homes(1)+record(most-1, writes(2, "x")...)+homes(3))
	wantInt(t, "Next", j.Next(), most)
	want(t, "Commit", j.Commit(writes(1, "x")), api.ErrJournalForm)
	want(t, "Checkpoint", j.Checkpoint(), api.OK)
	wantImage(t, d.Image(), head(2, most-1)+head(3, most)+record(most-1, writes(2, "x")...)+sector("x", 0)+sector("x", 0)+homes(1))
	wantInt(t, "Next", j.Next(), most)
	want(t, "Commit", j.Commit(writes(1, "x")), api.ErrJournalForm)
}

// With the greatest head no checkpoint may be: not one that a transaction would need, either.
func TestCommitWithTheGreatestHead(t *testing.T) {
	d, j := opened(t, head(most, 1)+homes(7), 5)
	want(t, "Checkpoint", j.Checkpoint(), api.ErrJournalForm)
	want(t, "Commit", j.Commit(writes(1, "x")), api.OK)
	image := d.Image()
	want(t, "Commit", j.Commit(writes(1, "y")), api.ErrJournalForm)
	want(t, "Checkpoint", j.Checkpoint(), api.ErrJournalForm)
	wantImage(t, d.Image(), image)
	wantCells(t, j, "x", "", "")
	wantInt(t, "Next", j.Next(), 2)
	wantInt(t, "Room", j.Room(), 0)
	want(t, "Sync", j.Sync(), api.OK)
	if j.Dead() {
		t.Error("Dead")
	}
}

func TestCommitStepByStep(t *testing.T) {
	long := strings.Repeat("l", 116)
	d, j := formatted(t, 12, 8)
	l := []api.Write{w(2, long), w(0, "")}
	commit := func(j *journal.Journal) api.Errno { return j.Commit(l) }
	wantSteps(t, d, stepsOf(t, j, commit), step{2, sector(cellsData(2, 0), 1)}, step{3, sector(long, 1)}, step{4, sector("", 1)})
	want(t, "Commit", j.Commit(l), api.OK)
	wantInt(t, "Room", j.Room(), 2)
	wantSteps(t, d, stepsOf(t, j, commit), step{5, sector(cellsData(2, 0), 2)}, step{6, sector(long, 2)}, step{7, sector("", 2)})
	want(t, "Commit", j.Commit([]api.Write{w(3, "c")}), api.OK)
	wantInt(t, "Room", j.Room(), 0)
	wantSteps(t, d, stepsOf(t, j, commit), barrier, step{8, sector("", 0)}, step{10, sector(long, 0)}, step{11, sector("c", 0)}, barrier, step{1, head(3, 3)}, barrier,
		step{2, sector(cellsData(2, 0), 3)}, step{3, sector(long, 3)}, step{4, sector("", 3)})
}

// A transaction for which there is just room needs no checkpoint, one of a write more does.
func TestCommitOfTheRoom(t *testing.T) {
	for first := 1; first <= 6; first++ {
		for n := 1; n <= 6; n++ {
			d, j := formatted(t, 16, 9)
			want(t, "Commit", j.Commit(writes(first, "a")), api.OK)
			room := max(0, 9-2-first-1-1)
			wantInt(t, "Room", j.Room(), room)
			want(t, "Commit", j.Commit(writes(n, "b")), api.OK)
			checkpoints := 0
			if n > room {
				checkpoints = 1
			}
			s := d.Image()[128:256]
			if (s == head(3, 2)) != (checkpoints == 1) {
				t.Errorf("%d writes behind %d: the block 1 is %q", n, first, s)
			}
			wantInt(t, "Next", j.Next(), 3)
		}
	}
}

// P16.4

func TestCheckpointStepByStep(t *testing.T) {
	d, j := formatted(t, 14, 9)
	checkpoint := func(j *journal.Journal) api.Errno { return j.Checkpoint() }
	wantSteps(t, d, stepsOf(t, j, checkpoint))
	want(t, "Commit", j.Commit([]api.Write{w(4, "a"), w(1, "b")}), api.OK)
	wantSteps(t, d, stepsOf(t, j, checkpoint), barrier, step{10, sector("b", 0)}, step{13, sector("a", 0)}, barrier, step{1, head(3, 2)}, barrier)
	want(t, "Commit", j.Commit([]api.Write{w(1, "c"), w(0, "")}), api.OK)
	wantSteps(t, d, stepsOf(t, j, checkpoint), barrier, step{9, sector("", 0)}, step{10, sector("c", 0)}, step{13, sector("a", 0)}, barrier, step{1, head(3, 3)}, barrier)
	want(t, "Checkpoint", j.Checkpoint(), api.OK)
	wantSteps(t, d, stepsOf(t, j, checkpoint))
	wantCells(t, j, "", "c", "", "", "a")
	wantInt(t, "Room", j.Room(), 6)
	wantInt(t, "Next", j.Next(), 3)
	want(t, "Commit", j.Commit([]api.Write{w(3, "d")}), api.OK)
	wantSteps(t, d, stepsOf(t, j, checkpoint), barrier, step{12, sector("d", 0)}, barrier, step{0, head(4, 4)}, barrier)
}

func TestSyncStepByStep(t *testing.T) {
	d, j := formatted(t, 8, 5)
	sync := func(j *journal.Journal) api.Errno { return j.Sync() }
	wantSteps(t, d, stepsOf(t, j, sync), barrier)
	want(t, "Commit", j.Commit(writes(2, "a")), api.OK)
	wantSteps(t, d, stepsOf(t, j, sync), barrier)
	want(t, "Sync", j.Sync(), api.OK)
	wantImage(t, d.Safe(), head(2, 1)+homes(1)+record(1, writes(2, "a")...)+homes(3))
	wantInt(t, "Room", j.Room(), 0)
	wantInt(t, "Next", j.Next(), 2)
}

// wantDead holds that a journal is dead, with what it told ahead of that.
func wantDead(t *testing.T, j *journal.Journal, cells, area, room, next int) {
	t.Helper()
	if !j.Dead() {
		t.Error("it is not dead")
	}
	wantInt(t, "Cells", j.Cells(), cells)
	wantInt(t, "Most", j.Most(), min(40, area-3))
	wantInt(t, "Room", j.Room(), room)
	wantInt(t, "Next", j.Next(), next)
	for _, cell := range []int{0, 1, -1, cells, math.MinInt, math.MaxInt} {
		wantRead(t, j, cell, "", api.ErrDead)
	}
	want(t, "Commit of none", j.Commit(nil), api.ErrDead)
	want(t, "Commit", j.Commit(writes(1, "x")), api.ErrDead)
	want(t, "Commit of too many", j.Commit(writes(99, "x")), api.ErrDead)
	want(t, "Commit of no cell", j.Commit([]api.Write{w(-1, "x")}), api.ErrDead)
	want(t, "Checkpoint", j.Checkpoint(), api.ErrDead)
	want(t, "Sync", j.Sync(), api.ErrDead)
}

// Whatever the power goes in, the journal is dead from then on, when it is back, too; so are its clones.
func TestDeadForGood(t *testing.T) {
	calls := []func(j *journal.Journal) api.Errno{
		func(j *journal.Journal) api.Errno { return j.Commit(writes(2, "y")) },
		func(j *journal.Journal) api.Errno { return j.Commit(writes(3, "z")) },
		func(j *journal.Journal) api.Errno { return j.Checkpoint() },
		func(j *journal.Journal) api.Errno { return j.Sync() },
	}
	for i, call := range calls {
		for n := 1; ; n++ {
			d, j := formatted(t, 12, 8)
			want(t, "Commit", j.Commit(writes(2, "x")), api.OK)
			want(t, "Arm", d.Arm(n, nil), api.OK)
			if e := call(j); e == api.OK {
				wantInt(t, "changes of the call "+strconv.Itoa(i), n-1, []int{3, 10, 6, 1}[i])
				break
			}
			wantDead(t, j, 4, 8, 2, 2)
			d.Revive()
			image := d.Image()
			wantDead(t, j, 4, 8, 2, 2)
			wantImage(t, d.Image(), image)
			c := d.Clone()
			wantDead(t, j.Clone(whole(t, c)), 4, 8, 2, 2)
			wantImage(t, c.Image(), image)
			_, e := journal.Open(whole(t, d), 8)
			want(t, "Open", e, api.OK)
		}
	}
}

// The power may go between two calls, too: the call that is told of it makes the journal dead.
func TestPowerGoesBetweenCalls(t *testing.T) {
	for i, call := range []func(j *journal.Journal) api.Errno{
		func(j *journal.Journal) api.Errno { _, e := j.Read(2); return e },
		func(j *journal.Journal) api.Errno { return j.Commit(writes(1, "y")) },
		func(j *journal.Journal) api.Errno { return j.Commit(writes(4, "y")) },
		func(j *journal.Journal) api.Errno { return j.Checkpoint() },
		func(j *journal.Journal) api.Errno { return j.Sync() },
	} {
		d, j := formatted(t, 12, 8)
		want(t, "Commit", j.Commit(writes(2, "x")), api.OK)
		want(t, "Crash", d.Crash(nil), api.OK)
		if j.Dead() {
			t.Error("it is dead ahead of all calls")
		}
		want(t, "the call "+strconv.Itoa(i), call(j), api.ErrDead)
		wantDead(t, j, 4, 8, 2, 2)
		d.Revive()
		wantDead(t, j, 4, 8, 2, 2)
	}
}

// Calls that ask nothing of the disk are not told that the power is gone.
func TestCallsThatAskNothingOfTheDisk(t *testing.T) {
	d, j := formatted(t, 12, 8)
	want(t, "Crash", d.Crash(nil), api.OK)
	want(t, "Commit of none", j.Commit(nil), api.OK)
	want(t, "Commit of too many", j.Commit(writes(6, "x")), api.ErrJournalLong)
	want(t, "Commit of no cell", j.Commit([]api.Write{w(4, "x")}), api.ErrJournalAt)
	want(t, "Checkpoint without records", j.Checkpoint(), api.OK)
	wantRead(t, j, 4, "", api.ErrJournalAt)
	if j.Dead() {
		t.Error("it is dead")
	}
	d.Revive()
	want(t, "Commit", j.Commit(writes(2, "x")), api.OK)
	want(t, "Crash", d.Crash(nil), api.OK)
	wantRead(t, j, 1, "x", api.OK) // a record writes it: no home is read
	if j.Dead() {
		t.Error("it is dead")
	}
}

// P16.5

func TestMostAndRoom(t *testing.T) {
	for area := 4; area <= 60; area++ {
		_, j := formatted(t, area+50, area)
		wantInt(t, "Cells", j.Cells(), 50)
		wantInt(t, "Most", j.Most(), min(40, area-3))
		left := area - 2
		for left >= 2 {
			wantInt(t, "Room", j.Room(), min(40, left-1))
			n := 1 + left%3
			if n > left-1 {
				n = left - 1
			}
			want(t, "Commit", j.Commit(writes(n, "x")), api.OK)
			left -= n + 1
		}
		wantInt(t, "Room", j.Room(), 0)
		wantInt(t, "Most", j.Most(), min(40, area-3))
		want(t, "Checkpoint", j.Checkpoint(), api.OK)
		wantInt(t, "Room", j.Room(), min(40, area-3))
	}
}

func TestReadOfHomes(t *testing.T) {
	image := head(2, 1) + homes(5) + sector("a", 0) + unsummed(1) + noughts(128) + sector("d", most) + sector("e", most+1)
	d, j := opened(t, image, 6)
	wantRead(t, j, 0, "a", api.OK)
	wantRead(t, j, 1, "", api.ErrBlockSum)
	wantRead(t, j, 2, "", api.ErrBlockSum)
	wantRead(t, j, 3, "d", api.OK)
	wantRead(t, j, 4, "", api.ErrBlockSum)
	wantRead(t, j, -1, "", api.ErrJournalAt)
	wantRead(t, j, 5, "", api.ErrJournalAt)
	want(t, "Commit", j.Commit([]api.Write{w(1, "b"), w(4, "e")}), api.OK)
	wantRead(t, j, 1, "b", api.OK)
	wantRead(t, j, 2, "", api.ErrBlockSum)
	wantRead(t, j, 4, "e", api.OK)
	want(t, "Checkpoint", j.Checkpoint(), api.OK)
	wantRead(t, j, 1, "b", api.OK)
	wantRead(t, j, 4, "e", api.OK)
	wantImage(t, d.Image(), image[:128]+head(3, 2)+record(1, w(1, "b"), w(4, "e"))+homes(1)+sector("a", 0)+sector("b", 0)+noughts(128)+sector("d", most)+sector("e", 0))
	if j.Dead() {
		t.Error("Dead")
	}
}

// A clone goes its own way.
func TestClones(t *testing.T) {
	d, j := formatted(t, 10, 6)
	want(t, "Commit", j.Commit([]api.Write{w(0, "a")}), api.OK)
	c := d.Clone()
	k := j.Clone(whole(t, c))
	want(t, "Commit", k.Commit([]api.Write{w(0, "b"), w(1, "c")}), api.OK)
	wantCells(t, j, "a", "", "", "")
	wantInt(t, "Next", j.Next(), 2)
	wantInt(t, "Room", j.Room(), 1)
	want(t, "Commit", j.Commit([]api.Write{w(0, "d")}), api.OK)
	wantCells(t, k, "b", "c", "", "")
	wantInt(t, "Next", k.Next(), 3)
	wantImage(t, c.Image(), head(2, 1)+head(3, 2)+record(2, w(0, "b"), w(1, "c"))+homes(1)+sector("a", 0)+homes(3))
	wantImage(t, d.Image(), head(2, 1)+homes(1)+record(1, w(0, "a"))+record(2, w(0, "d"))+homes(4))
	want(t, "Crash", c.Crash(nil), api.OK)
	want(t, "Sync", k.Sync(), api.ErrDead)
	if j.Dead() || !k.Dead() {
		t.Error("Dead")
	}
	wantCells(t, j, "d", "", "", "")
}
