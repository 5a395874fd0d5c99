package block_test

import (
	"encoding/binary"
	"hash/crc32"
	"math"
	"math/rand"
	"slices"
	"strings"
	"testing"

	"castellan/api"
	"castellan/block"
	"castellan/disk"
)

// most is the greatest stamp.
const most = 1 << 62

// noStamps are none.
var noStamps = []int{-1, -2, -256, math.MinInt, math.MinInt + 1, most + 1, most + 2, most + 256, math.MaxInt - 1, math.MaxInt}

// stamps are some, the ones at the edges among them.
var stamps = []int{0, 1, 2, 127, 128, 255, 256, 257, 65535, 65536, 1 << 31, 1 << 32, 1<<40 + 7, 1 << 61, 0x0102030405060708, most - 256, most - 1, most}

func noughts(n int) string { return strings.Repeat("\x00", n) }

func anyBytes(rnd *rand.Rand, n int) string {
	b := make([]byte, n)
	rnd.Read(b)
	return string(b)
}

// full is data with noughts behind them, up to 116 bytes.
func full(data string) string { return data + noughts(116-len(data)) }

// sectorOf is a block's sector, with the library's sum.
func sectorOf(data string, stamp uint64) string {
	b := []byte(full(data))
	b = binary.BigEndian.AppendUint32(b, crc32.ChecksumIEEE(b))
	return string(binary.BigEndian.AppendUint64(b, stamp))
}

// unsummed is a sector whose sum is not that of its data, with a stamp.
func unsummed(stamp uint64) string {
	b := []byte(sectorOf("unsummed", stamp))
	b[0]++
	return string(b)
}

func diskOf(t *testing.T, sectors ...string) *disk.Disk {
	t.Helper()
	d, e := disk.New(strings.Join(sectors, ""))
	if d == nil || e != api.OK {
		t.Fatalf("disk.New: %v, %d", d != nil, e)
	}
	return d
}

// blank is a disk of so many sectors of noughts.
func blank(t *testing.T, n int) *disk.Disk {
	t.Helper()
	return diskOf(t, noughts(128*n))
}

func devOf(t *testing.T, d *disk.Disk, first, count, cache int) *block.Dev {
	t.Helper()
	v, e := block.New(d, first, count, cache)
	if v == nil || e != api.OK {
		t.Fatalf("New(%d, %d, %d): %v, %d", first, count, cache, v != nil, e)
	}
	return v
}

func want(t *testing.T, what string, got, e api.Errno) {
	t.Helper()
	if got != e {
		t.Errorf("%s: %d, not %d", what, got, e)
	}
}

func wantBytes(t *testing.T, data string, stamp int, s string, e api.Errno) {
	t.Helper()
	if got, ge := block.Bytes(data, stamp); got != s || ge != e {
		t.Errorf("Bytes(%.20q of %d bytes, %d): %q, %d, not %q, %d", data, len(data), stamp, got, ge, s, e)
	}
}

func wantParse(t *testing.T, sector, data string, stamp int, e api.Errno) {
	t.Helper()
	if gd, gs, ge := block.Parse(sector); gd != data || gs != stamp || ge != e {
		t.Errorf("Parse(%q): %q, %d, %d, not %q, %d, %d", sector, gd, gs, ge, data, stamp, e)
	}
}

func wantRead(t *testing.T, v *block.Dev, at int, data string, stamp int, e api.Errno) {
	t.Helper()
	if gd, gs, ge := v.Read(at); gd != data || gs != stamp || ge != e {
		t.Errorf("Read(%d): %.20q, %d, %d, not %.20q, %d, %d", at, gd, gs, ge, data, stamp, e)
	}
}

func wantStamp(t *testing.T, v *block.Dev, at, stamp int, e api.Errno) {
	t.Helper()
	if got, ge := v.Stamp(at); got != stamp || ge != e {
		t.Errorf("Stamp(%d): %d, %d, not %d, %d", at, got, ge, stamp, e)
	}
}

func wantWrite(t *testing.T, v *block.Dev, at int, data string, stamp int, e api.Errno) {
	t.Helper()
	if got := v.Write(at, data, stamp); got != e {
		t.Errorf("Write(%d, %.20q of %d bytes, %d): %d, not %d", at, data, len(data), stamp, got, e)
	}
}

func wantMisses(t *testing.T, v *block.Dev, n int) {
	t.Helper()
	if got := v.Misses(); got != n {
		t.Errorf("Misses: %d, not %d", got, n)
	}
}

func wantWaiting(t *testing.T, d *disk.Disk, l ...int) {
	t.Helper()
	if got := d.Waiting(); !slices.Equal(got, l) {
		t.Errorf("Waiting: %v, not %v", got, l)
	}
}

// wantHits reads each block, and holds that none of these reads goes to the disk.
func wantHits(t *testing.T, v *block.Dev, blocks ...int) {
	t.Helper()
	for _, at := range blocks {
		n := v.Misses()
		if _, _, e := v.Read(at); e != api.OK || v.Misses() != n {
			t.Errorf("Read(%d): %d, %d misses, not %d", at, e, v.Misses(), n)
		}
	}
}

// wantMissed reads each block, and holds that each of these reads goes to the disk.
func wantMissed(t *testing.T, v *block.Dev, blocks ...int) {
	t.Helper()
	for _, at := range blocks {
		n := v.Misses()
		if _, _, e := v.Read(at); e != api.OK || v.Misses() != n+1 {
			t.Errorf("Read(%d): %d, %d misses, not %d", at, e, v.Misses(), n+1)
		}
	}
}

// The chapter's examples.

func TestExampleOfRefusals(t *testing.T) {
	wantBytes(t, strings.Repeat("a", 117), 0, "", api.ErrBlockLong)
	wantBytes(t, "", -1, "", api.ErrArg)
}

func TestExampleOfBytes(t *testing.T) {
	s, e := block.Bytes("", 1)
	want(t, "Bytes", e, api.OK)
	sum := binary.BigEndian.AppendUint32(nil, crc32.ChecksumIEEE(make([]byte, 116)))
	if len(s) != 128 || s[116:] != string(sum)+"\x00\x00\x00\x00\x00\x00\x00\x01" {
		t.Errorf("Bytes: %q", s)
	}
}

func TestExampleOfAnExtent(t *testing.T) {
	v := devOf(t, blank(t, 2), 0, 2, 1)
	wantWrite(t, v, 0, "a", 5, api.OK)
	wantRead(t, v, 0, full("a"), 5, api.OK)
	wantMisses(t, v, 0)
	wantRead(t, v, 1, "", 0, api.ErrBlockSum)
	wantRead(t, v, 2, "", 0, api.ErrBlockAt)
	wantStamp(t, v, 1, 0, api.OK)
}

// P15.1

func TestBytesOfAllLengths(t *testing.T) {
	rnd := rand.New(rand.NewSource(1))
	for n := 0; n <= 116; n++ {
		for _, data := range []string{noughts(n), strings.Repeat("\xff", n), anyBytes(rnd, n)} {
			wantBytes(t, data, 7, sectorOf(data, 7), api.OK)
			wantParse(t, sectorOf(data, 7), full(data), 7, api.OK)
		}
	}
}

func TestBytesOfTooMany(t *testing.T) {
	for _, n := range []int{117, 118, 120, 128, 129, 256, 1 << 20} {
		wantBytes(t, noughts(n), 0, "", api.ErrBlockLong)
		wantBytes(t, noughts(n), most, "", api.ErrBlockLong)
		for _, stamp := range noStamps {
			wantBytes(t, noughts(n), stamp, "", api.ErrBlockLong)
		}
	}
}

func TestBytesOfStamps(t *testing.T) {
	for _, stamp := range stamps {
		wantBytes(t, "keep", stamp, sectorOf("keep", uint64(stamp)), api.OK)
		wantParse(t, sectorOf("keep", uint64(stamp)), full("keep"), stamp, api.OK)
	}
	for _, stamp := range noStamps {
		wantBytes(t, "keep", stamp, "", api.ErrArg)
		wantBytes(t, "", stamp, "", api.ErrArg)
		wantBytes(t, strings.Repeat("k", 116), stamp, "", api.ErrArg)
	}
}

func TestParseOfOtherLengths(t *testing.T) {
	s := sectorOf("keep", 9)
	for _, n := range []int{0, 1, 116, 120, 124, 127} {
		wantParse(t, s[:n], "", 0, api.ErrBlockLong)
		wantParse(t, s[128-n:], "", 0, api.ErrBlockLong)
	}
	for _, more := range []string{"\x00", "k", s} {
		wantParse(t, s+more, "", 0, api.ErrBlockLong)
		wantParse(t, more+s, "", 0, api.ErrBlockLong)
	}
}

func TestParseOfStampsThatAreNone(t *testing.T) {
	for _, stamp := range []uint64{most + 1, most + 2, most + 1<<32, 1<<63 - 1, 1 << 63, 1<<63 + 1, 1<<63 + 5, 1<<64 - most, 1<<64 - 1} {
		wantParse(t, sectorOf("keep", stamp), "", 0, api.ErrBlockSum)
		wantParse(t, unsummed(stamp), "", 0, api.ErrBlockSum)
	}
	wantParse(t, unsummed(0), "", 0, api.ErrBlockSum)
	wantParse(t, unsummed(most), "", 0, api.ErrBlockSum)
	wantParse(t, noughts(128), "", 0, api.ErrBlockSum)
	wantParse(t, strings.Repeat("\xff", 128), "", 0, api.ErrBlockSum)
}

// The sum is that of the data alone.
func TestParseOfAnotherStamp(t *testing.T) {
	s := sectorOf("keep", 9)
	for _, stamp := range stamps {
		wantParse(t, s[:120]+sectorOf("", uint64(stamp))[120:], full("keep"), stamp, api.OK)
	}
}

// P15.2

func TestNewOfExtents(t *testing.T) {
	for sectors := 1; sectors <= 4; sectors++ {
		d := blank(t, sectors)
		for first := -2; first <= 6; first++ {
			for count := -2; count <= 6; count++ {
				for _, cache := range []int{-1, 0, 1, 15, 16, 17} {
					e := api.ErrBlockForm
					if first >= 0 && count >= 1 && first+count <= sectors && cache >= 0 && cache <= 16 {
						e = api.OK
					}
					v, got := block.New(d, first, count, cache)
					if got != e || (v != nil) != (e == api.OK) {
						t.Fatalf("New of %d sectors (%d, %d, %d): %v, %d, not %d", sectors, first, count, cache, v != nil, got, e)
					}
					if e == api.OK && (v.Count() != count || v.Misses() != 0) {
						t.Fatalf("New of %d sectors (%d, %d, %d): %d blocks, %d misses", sectors, first, count, cache, v.Count(), v.Misses())
					}
				}
			}
		}
	}
}

func TestNewOfFarNumbers(t *testing.T) {
	d := blank(t, 4)
	far := []int{math.MinInt, math.MinInt + 1, math.MinInt + 4, -1 << 32, 1 << 32, math.MaxInt - 4, math.MaxInt - 1, math.MaxInt}
	for _, n := range far {
		for _, l := range [][3]int{{n, 1, 0}, {0, n, 0}, {0, 1, n}, {n, n, 0}, {n, n, n}, {1, n, 1}, {n, 4, 1}, {3, n, 16}} {
			v, e := block.New(d, l[0], l[1], l[2])
			if v != nil || e != api.ErrBlockForm {
				t.Errorf("New%v: %v, %d", l, v != nil, e)
			}
		}
		for _, m := range far {
			if v, e := block.New(d, n, m, 0); v != nil || e != api.ErrBlockForm {
				t.Errorf("New(%d, %d, 0): %v, %d", n, m, v != nil, e)
			}
		}
	}
}

func TestNewOfTheGreatestDisk(t *testing.T) {
	d := blank(t, 4096)
	v := devOf(t, d, 0, 4096, 16)
	wantWrite(t, v, 4095, "last", 3, api.OK)
	wantWaiting(t, d, 4095)
	wantRead(t, devOf(t, d, 4095, 1, 0), 0, full("last"), 3, api.OK)
	if v, e := block.New(d, 4095, 2, 0); v != nil || e != api.ErrBlockForm {
		t.Errorf("New: %v, %d", v != nil, e)
	}
}

// The extent is there on a disk whose power is gone, too.
func TestNewOfADeadDisk(t *testing.T) {
	d := diskOf(t, sectorOf("keep", 9))
	want(t, "Crash", d.Crash(nil), api.OK)
	v := devOf(t, d, 0, 1, 1)
	wantRead(t, v, 0, "", 0, api.ErrDead)
	d.Revive()
	wantRead(t, v, 0, full("keep"), 9, api.OK)
}

// P15.3

func TestReadOfSectors(t *testing.T) {
	for cache := 0; cache <= 16; cache++ {
		v := devOf(t, diskOf(t, sectorOf("keep", 9), unsummed(1), sectorOf("gate", most), sectorOf("gate", most+1)), 0, 4, cache)
		wantRead(t, v, 0, full("keep"), 9, api.OK)
		wantRead(t, v, 1, "", 0, api.ErrBlockSum)
		wantRead(t, v, 2, full("gate"), most, api.OK)
		wantRead(t, v, 3, "", 0, api.ErrBlockSum)
		wantMisses(t, v, 4)
	}
}

func TestNoSuchBlock(t *testing.T) {
	d := diskOf(t, sectorOf("ahead", 1), sectorOf("keep", 2), sectorOf("gate", 3), sectorOf("behind", 4))
	for cache := 0; cache <= 1; cache++ {
		v := devOf(t, d, 1, 2, cache)
		for _, at := range []int{-1, -2, 2, 3, 1 << 32, math.MinInt, math.MinInt + 1, math.MaxInt - 1, math.MaxInt} {
			wantRead(t, v, at, "", 0, api.ErrBlockAt)
			wantStamp(t, v, at, 0, api.ErrBlockAt)
			wantWrite(t, v, at, "x", 1, api.ErrBlockAt)
			wantWrite(t, v, at, noughts(117), -1, api.ErrBlockAt)
		}
		wantMisses(t, v, 0)
		wantWaiting(t, d)
		wantRead(t, v, 0, full("keep"), 2, api.OK)
		wantRead(t, v, 1, full("gate"), 3, api.OK)
	}
}

// A call whose arguments are wrong tells that the power is gone ahead of all else.
func TestAllIsDead(t *testing.T) {
	for _, cache := range []int{0, 2} {
		d := diskOf(t, sectorOf("keep", 2), unsummed(most+1))
		v := devOf(t, d, 0, 2, cache)
		wantRead(t, v, 0, full("keep"), 2, api.OK)
		want(t, "Crash", d.Crash(nil), api.OK)
		for _, at := range []int{-1, 0, 1, 2, math.MinInt, math.MaxInt} {
			wantRead(t, v, at, "", 0, api.ErrDead)
			wantStamp(t, v, at, 0, api.ErrDead)
			wantWrite(t, v, at, "gate", 3, api.ErrDead)
			wantWrite(t, v, at, noughts(117), -1, api.ErrDead)
		}
		want(t, "Barrier", v.Barrier(), api.ErrDead)
		wantMisses(t, v, 1)
		if v.Count() != 2 {
			t.Errorf("Count: %d", v.Count())
		}
		d.Revive()
		wantRead(t, v, 0, full("keep"), 2, api.OK)
		if cache > 0 {
			wantMisses(t, v, 1)
		}
	}
}

func TestStampWhateverTheSum(t *testing.T) {
	for _, stamp := range stamps {
		v := devOf(t, diskOf(t, sectorOf("keep", uint64(stamp)), unsummed(uint64(stamp))), 0, 2, 1)
		wantStamp(t, v, 0, stamp, api.OK)
		wantStamp(t, v, 1, stamp, api.OK)
		wantMisses(t, v, 0)
	}
	for _, stamp := range []uint64{most + 1, most + 2, 1<<63 - 1, 1 << 63, 1<<63 + 9, 1<<64 - 1} {
		v := devOf(t, diskOf(t, sectorOf("keep", stamp), unsummed(stamp)), 0, 2, 1)
		wantStamp(t, v, 0, 0, api.ErrBlockSum)
		wantStamp(t, v, 1, 0, api.ErrBlockSum)
		wantMisses(t, v, 0)
	}
}

// A stamp is asked of the disk: nothing comes into the cache by it, and nothing becomes newer there.
func TestStampLeavesTheCache(t *testing.T) {
	v := devOf(t, diskOf(t, sectorOf("a", 1), sectorOf("b", 2), sectorOf("c", 3)), 0, 3, 2)
	wantStamp(t, v, 0, 1, api.OK)
	wantMissed(t, v, 0, 1)
	wantStamp(t, v, 0, 1, api.OK)
	wantMissed(t, v, 2)
	wantHits(t, v, 1, 2)
	wantMissed(t, v, 0)
	wantMisses(t, v, 4)
}

func TestStampByTheDisk(t *testing.T) {
	d := diskOf(t, sectorOf("a", 1))
	v := devOf(t, d, 0, 1, 1)
	wantWrite(t, v, 0, "b", 2, api.OK)
	wantStamp(t, v, 0, 2, api.OK)
	want(t, "Crash", d.Crash(nil), api.OK)
	wantStamp(t, v, 0, 0, api.ErrDead)
	d.Revive()
	wantStamp(t, v, 0, 1, api.OK)
}

func TestWriteOfOneSector(t *testing.T) {
	rnd := rand.New(rand.NewSource(2))
	image := anyBytes(rnd, 6*128)
	for cache := 0; cache <= 2; cache++ {
		for at := range 3 {
			d := diskOf(t, image)
			v := devOf(t, d, 2, 3, cache)
			wantWrite(t, v, at, "keep", 9, api.OK)
			wantWaiting(t, d, 2+at)
			from := (2 + at) * 128
			if d.Image() != image[:from]+sectorOf("keep", 9)+image[from+128:] || d.Safe() != image {
				t.Errorf("Write(%d): the disk is not as it should be", at)
			}
			wantRead(t, v, at, full("keep"), 9, api.OK)
		}
	}
}

func TestWriteThatIsRefused(t *testing.T) {
	d := diskOf(t, sectorOf("keep", 9))
	v := devOf(t, d, 0, 1, 1)
	want(t, "Arm", d.Arm(1, []int{128}), api.OK)
	for _, stamp := range append([]int{0, most}, noStamps...) {
		wantWrite(t, v, 0, noughts(117), stamp, api.ErrBlockLong)
	}
	for _, stamp := range noStamps {
		wantWrite(t, v, 0, "gate", stamp, api.ErrArg)
	}
	wantWrite(t, v, 1, "gate", 1, api.ErrBlockAt)
	wantMissed(t, v, 0)
	wantRead(t, v, 0, full("keep"), 9, api.OK)
	if d.Dead() || d.Image() != sectorOf("keep", 9) {
		t.Error("a write that is refused changes the disk")
	}
	wantWrite(t, v, 0, "gate", 1, api.ErrDead)
	d.Revive()
	wantRead(t, devOf(t, d, 0, 1, 0), 0, full("gate"), 1, api.OK)
}

func TestWriteOfStampsAndLengths(t *testing.T) {
	for _, cache := range []int{0, 1} {
		v := devOf(t, blank(t, 1), 0, 1, cache)
		for _, n := range []int{0, 1, 115, 116} {
			for _, stamp := range stamps {
				data := strings.Repeat("k", n)
				wantWrite(t, v, 0, data, stamp, api.OK)
				wantRead(t, v, 0, full(data), stamp, api.OK)
				wantStamp(t, v, 0, stamp, api.OK)
			}
		}
	}
}

// The power goes in a write: it is one change, and what choices leave is there then, but not in the cache.
func TestWriteInWhichThePowerGoes(t *testing.T) {
	for c, left := range map[int]string{0: "keep", 128: "gate"} {
		d := diskOf(t, sectorOf("keep", 9))
		v := devOf(t, d, 0, 1, 1)
		want(t, "Arm", d.Arm(1, []int{c}), api.OK)
		wantWrite(t, v, 0, "gate", 9, api.ErrDead)
		if !d.Dead() {
			t.Error("the power is not gone")
		}
		wantRead(t, v, 0, "", 0, api.ErrDead)
		d.Revive()
		wantRead(t, v, 0, full(left), 9, api.OK)
		wantMisses(t, v, 1)
	}
}

// What the cache has is told as it is there, whatever a crash has left of it; a new extent tells what is left.
func TestCacheBehindACrash(t *testing.T) {
	d := diskOf(t, sectorOf("keep", 9))
	v := devOf(t, d, 0, 1, 1)
	wantWrite(t, v, 0, "gate", 10, api.OK)
	want(t, "Crash", d.Crash(nil), api.OK)
	d.Revive()
	wantRead(t, v, 0, full("gate"), 10, api.OK)
	wantMisses(t, v, 0)
	wantRead(t, devOf(t, d, 0, 1, 1), 0, full("keep"), 9, api.OK)
}

func TestBarrierOfTheExtentAlone(t *testing.T) {
	d := blank(t, 6)
	v, w := devOf(t, d, 1, 2, 1), devOf(t, d, 3, 3, 0)
	for at := range 6 {
		want(t, "disk.Write", d.Write(at, sectorOf("keep", uint64(at))), api.OK)
	}
	want(t, "Barrier", v.Barrier(), api.OK)
	wantWaiting(t, d, 0, 3, 4, 5)
	want(t, "Barrier", w.Barrier(), api.OK)
	wantWaiting(t, d, 0)
	want(t, "Barrier", w.Barrier(), api.OK)
	wantMisses(t, v, 0)
	wantRead(t, v, 0, full("keep"), 1, api.OK)
	wantRead(t, w, 2, full("keep"), 5, api.OK)
}

// A barrier is one change, however many sectors there are, and also if none is unsafe.
func TestBarrierIsOneChange(t *testing.T) {
	for _, written := range []int{0, 1, 3} {
		d := blank(t, 3)
		v := devOf(t, d, 0, 3, 0)
		for at := range written {
			wantWrite(t, v, at, "keep", 9, api.OK)
		}
		want(t, "Arm", d.Arm(2, []int{0, 128}), api.OK)
		want(t, "Barrier", v.Barrier(), api.OK)
		wantWaiting(t, d)
		for at := range written {
			wantStamp(t, v, at, 9, api.OK)
		}
		want(t, "Barrier", v.Barrier(), api.ErrDead)
		if !d.Dead() {
			t.Error("the power is not gone")
		}
	}
}

func TestBarrierInWhichThePowerGoes(t *testing.T) {
	d := blank(t, 3)
	v := devOf(t, d, 0, 3, 2)
	for at := range 3 {
		wantWrite(t, v, at, "keep", 9, api.OK)
	}
	want(t, "Arm", d.Arm(1, []int{0, 128, 119}), api.OK)
	want(t, "Barrier", v.Barrier(), api.ErrDead)
	want(t, "Barrier", v.Barrier(), api.ErrDead)
	d.Revive()
	w := devOf(t, d, 0, 3, 2)
	wantRead(t, w, 0, "", 0, api.ErrBlockSum)
	wantRead(t, w, 1, full("keep"), 9, api.OK)
	wantRead(t, w, 2, "", 0, api.ErrBlockSum)
	wantStamp(t, w, 2, 0, api.OK)
}

// The words of the cache.

func TestCacheOfNone(t *testing.T) {
	v := devOf(t, blank(t, 1), 0, 1, 0)
	wantWrite(t, v, 0, "keep", 9, api.OK)
	wantMissed(t, v, 0, 0, 0)
	wantMisses(t, v, 3)
}

func TestCacheOfAllSizes(t *testing.T) {
	for cache := 1; cache <= 16; cache++ {
		v := devOf(t, blank(t, 18), 0, 18, cache)
		for at := range 18 {
			wantWrite(t, v, at, "keep", at, api.OK)
		}
		for at := 18 - cache; at < 18; at++ {
			wantHits(t, v, at)
		}
		for range 2 { // each of these pushes out the one that is to be read cache blocks later
			for at := range cache + 1 {
				wantMissed(t, v, at)
			}
		}
		wantHits(t, v, cache)
	}
}

func TestCacheIsRenewedByReads(t *testing.T) {
	v := devOf(t, blank(t, 4), 0, 4, 2)
	for at := range 4 {
		wantWrite(t, v, at, "keep", at, api.OK)
	}
	wantHits(t, v, 3, 2)
	wantMissed(t, v, 0) // for which 3 goes
	wantHits(t, v, 2)
	wantMissed(t, v, 3) // for which 0 goes
	wantHits(t, v, 2, 3)
	wantMissed(t, v, 0)
}

func TestCacheIsRenewedByWrites(t *testing.T) {
	v := devOf(t, blank(t, 3), 0, 3, 2)
	wantWrite(t, v, 0, "a", 1, api.OK)
	wantWrite(t, v, 1, "b", 2, api.OK)
	wantWrite(t, v, 0, "c", 3, api.OK)
	wantWrite(t, v, 2, "d", 4, api.OK) // for which 1 goes
	wantHits(t, v, 0, 2)
	wantRead(t, v, 0, full("c"), 3, api.OK)
	wantMissed(t, v, 1)
}

// What can't be read, or written, does not come into the cache, and nothing goes for it.
func TestCacheIsLeftByErrors(t *testing.T) {
	v := devOf(t, diskOf(t, sectorOf("a", 1), sectorOf("b", 2), unsummed(3)), 0, 3, 2)
	wantMissed(t, v, 0, 1)
	for n := range 3 {
		wantRead(t, v, 2, "", 0, api.ErrBlockSum)
		wantMisses(t, v, 3+n)
	}
	wantWrite(t, v, 0, noughts(117), 0, api.ErrBlockLong)
	wantWrite(t, v, 2, "c", -1, api.ErrArg)
	wantWrite(t, v, 3, "c", 1, api.ErrBlockAt)
	wantRead(t, v, 3, "", 0, api.ErrBlockAt)
	wantHits(t, v, 0, 1)
	wantRead(t, v, 0, full("a"), 1, api.OK)
	wantWrite(t, v, 2, "c", 1, api.OK) // for which 1 goes
	wantHits(t, v, 2, 0)
	wantMissed(t, v, 1)
}

// P15.4

func TestMisses(t *testing.T) {
	v := devOf(t, diskOf(t, sectorOf("a", 1), unsummed(2)), 0, 2, 1)
	wantMisses(t, v, 0)
	wantRead(t, v, 0, full("a"), 1, api.OK)
	wantRead(t, v, 0, full("a"), 1, api.OK)
	wantMisses(t, v, 1)
	wantRead(t, v, 1, "", 0, api.ErrBlockSum)
	wantRead(t, v, 1, "", 0, api.ErrBlockSum)
	wantMisses(t, v, 3)
	wantStamp(t, v, 0, 1, api.OK)
	wantWrite(t, v, 1, "b", 2, api.OK)
	want(t, "Barrier", v.Barrier(), api.OK)
	wantRead(t, v, 2, "", 0, api.ErrBlockAt)
	wantMisses(t, v, 3)
}

func TestCloneGoesItsOwnWay(t *testing.T) {
	d := diskOf(t, sectorOf("ahead", 1), sectorOf("a", 2), sectorOf("b", 3), sectorOf("c", 4))
	v := devOf(t, d, 1, 3, 2)
	wantMissed(t, v, 0, 1)
	cd := d.Clone()
	c := v.Clone(cd)
	if c.Count() != 3 {
		t.Errorf("Count: %d", c.Count())
	}
	wantMisses(t, c, 2)
	wantWrite(t, c, 0, "x", 9, api.OK)
	wantWaiting(t, cd, 1)
	wantWaiting(t, d)
	wantHits(t, v, 0, 1)
	wantRead(t, v, 0, full("a"), 2, api.OK)
	wantMissed(t, v, 2) // for which 1 goes, as 0 was read behind it
	wantHits(t, c, 1, 0)
	wantRead(t, c, 0, full("x"), 9, api.OK)
	wantMisses(t, c, 2)
	wantWrite(t, v, 0, "y", 8, api.OK)
	wantRead(t, c, 0, full("x"), 9, api.OK)
	want(t, "Barrier", c.Barrier(), api.OK)
	wantWaiting(t, cd)
	wantWaiting(t, d, 1)
	want(t, "Crash", cd.Crash(nil), api.OK)
	wantRead(t, c, 0, "", 0, api.ErrDead)
	wantRead(t, v, 0, full("y"), 8, api.OK)
	want(t, "Barrier", v.Barrier(), api.OK)
}

// The room that the cache has behind its blocks is not shared.
func TestCloneOfACacheWithRoom(t *testing.T) {
	for n := range 6 {
		d := blank(t, 8)
		v := devOf(t, d, 0, 8, 16)
		for at := range n {
			wantWrite(t, v, at, "keep", at, api.OK)
		}
		c := v.Clone(d.Clone())
		wantWrite(t, v, 6, "six", 6, api.OK)
		wantWrite(t, c, 7, "seven", 7, api.OK)
		wantHits(t, v, 6)
		wantHits(t, c, 7)
		wantRead(t, v, 6, full("six"), 6, api.OK)
		wantRead(t, v, 7, "", 0, api.ErrBlockSum)
		wantRead(t, c, 6, "", 0, api.ErrBlockSum)
	}
}

func TestExtentsSideBySide(t *testing.T) {
	d := blank(t, 4)
	v, w := devOf(t, d, 0, 2, 2), devOf(t, d, 2, 2, 2)
	for at := range 2 {
		wantWrite(t, v, at, "v", at, api.OK)
		wantWrite(t, w, at, "w", 10+at, api.OK)
	}
	for at := range 2 {
		wantRead(t, v, at, full("v"), at, api.OK)
		wantRead(t, w, at, full("w"), 10+at, api.OK)
		wantStamp(t, v, at, at, api.OK)
		wantStamp(t, w, at, 10+at, api.OK)
	}
	wantMisses(t, v, 0)
	wantMisses(t, w, 0)
}

// P15.5

func TestEachBitIsTold(t *testing.T) {
	rnd := rand.New(rand.NewSource(3))
	for _, data := range []string{"", "keep", strings.Repeat("\xff", 116), anyBytes(rnd, 116)} {
		for _, stamp := range []int{0, 9, most} {
			s, e := block.Bytes(data, stamp)
			want(t, "Bytes", e, api.OK)
			for bit := range 8 * 120 {
				b := []byte(s)
				b[bit/8] ^= 1 << (bit % 8)
				wantParse(t, string(b), "", 0, api.ErrBlockSum)
				wantRead(t, devOf(t, diskOf(t, string(b)), 0, 1, 1), 0, "", 0, api.ErrBlockSum)
			}
		}
	}
}

// Of a block over which another one was written it is the new one wholly, if its stamp is.
func TestTornWrites(t *testing.T) {
	rnd := rand.New(rand.NewSource(4))
	for range 300 {
		was, is := stamps[rnd.Intn(len(stamps))], stamps[rnd.Intn(len(stamps))]
		if was == is {
			continue
		}
		old, fresh := anyBytes(rnd, rnd.Intn(117)), anyBytes(rnd, rnd.Intn(117))
		for c := -1; c <= 129; c++ {
			d := diskOf(t, sectorOf(old, uint64(was)))
			v := devOf(t, d, 0, 1, rnd.Intn(2))
			wantWrite(t, v, 0, fresh, is, api.OK)
			want(t, "Crash", d.Crash([]int{c}), api.OK)
			d.Revive()
			w := devOf(t, d, 0, 1, 0)
			stamp, e := w.Stamp(0)
			if e == api.OK && stamp == is {
				wantRead(t, w, 0, full(fresh), is, api.OK)
			}
			if c > 127 {
				wantStamp(t, w, 0, is, api.OK)
			}
			if c < 1 {
				wantRead(t, w, 0, full(old), was, api.OK)
			}
		}
	}
}
