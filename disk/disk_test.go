package disk_test

import (
	"math"
	"math/rand"
	"slices"
	"strings"
	"testing"

	"castellan/api"
	"castellan/disk"
)

// filled is a sector of s, over and over.
func filled(s string) string { return strings.Repeat(s, 128)[:128] }

func noughts(n int) string { return strings.Repeat("\x00", n) }

func anyBytes(rnd *rand.Rand, n int) string {
	b := make([]byte, n)
	rnd.Read(b)
	return string(b)
}

func diskOf(t *testing.T, image string) *disk.Disk {
	t.Helper()
	d, e := disk.New(image)
	if d == nil || e != api.OK {
		t.Fatalf("New of %d bytes: %v, %d", len(image), d != nil, e)
	}
	return d
}

// two is a disk of two sectors of noughts.
func two(t *testing.T) *disk.Disk {
	t.Helper()
	return diskOf(t, noughts(256))
}

func want(t *testing.T, what string, got, e api.Errno) {
	t.Helper()
	if got != e {
		t.Errorf("%s: %d, not %d", what, got, e)
	}
}

func wantRead(t *testing.T, what string, d *disk.Disk, at int, s string, e api.Errno) {
	t.Helper()
	if got, ge := d.Read(at); got != s || ge != e {
		t.Errorf("%s: Read(%d): %q, %d, not %q, %d", what, at, got, ge, s, e)
	}
}

func wantText(t *testing.T, what, got, s string) {
	t.Helper()
	if got != s {
		t.Errorf("%s: %q, not %q", what, got, s)
	}
}

func wantWaiting(t *testing.T, what string, d *disk.Disk, l ...int) {
	t.Helper()
	if got := d.Waiting(); !slices.Equal(got, l) {
		t.Errorf("%s: Waiting %v, not %v", what, got, l)
	}
}

// wantAll holds what is read and what is safe.
func wantAll(t *testing.T, what string, d *disk.Disk, image, safe string) {
	t.Helper()
	wantText(t, what+": Image", d.Image(), image)
	wantText(t, what+": Safe", d.Safe(), safe)
}

func wantDead(t *testing.T, what string, d *disk.Disk, dead bool) {
	t.Helper()
	if d.Dead() != dead {
		t.Errorf("%s: Dead is not %v", what, dead)
	}
}

// noPlaces are no sectors of n.
func noPlaces(n int) []int {
	return []int{-1, -2, -128, n, n + 1, 128 * n, api.MaxSectors + n, 1 << 32, math.MinInt, math.MaxInt}
}

// The chapter's examples.

func TestExamples(t *testing.T) {
	a := filled("A")
	for _, s := range []string{"", "x"} {
		if d, e := disk.New(s); d != nil || e != api.ErrDiskSize {
			t.Errorf("New(%q): %v, %d", s, d != nil, e)
		}
	}
	d := two(t)
	want(t, "Write(1, A)", d.Write(1, a), api.OK)
	want(t, "Write(2, A)", d.Write(2, a), api.ErrDiskAt)
	want(t, "Write(0, `A`)", d.Write(0, "A"), api.ErrDiskLong)
	wantWaiting(t, "behind these", d, 1)
	wantText(t, "After(none)", d.After(nil), noughts(256))
	wantText(t, "After(0, 3)", d.After([]int{0, 3}), noughts(128)+"AAA"+noughts(125))
	wantText(t, "After(9, 128)", d.After([]int{9, 128}), noughts(128)+a)
	want(t, "Flush(0, 3)", d.Flush(0, 3), api.ErrDiskAt)
	want(t, "Flush(1, 1)", d.Flush(1, 1), api.OK)
	wantWaiting(t, "behind the flush", d)
	want(t, "Arm(2, none)", d.Arm(2, nil), api.OK)
	want(t, "Write(0, A)", d.Write(0, a), api.OK)
	want(t, "Flush(0, 1)", d.Flush(0, 1), api.ErrDead)
	wantRead(t, "of a dead one", d, 0, "", api.ErrDead)
	d.Revive()
	wantRead(t, "of a revived one", d, 0, noughts(128), api.OK)
	wantRead(t, "of a revived one", d, 1, a, api.OK)
}

// P7.1

func TestNewOfWrongSizes(t *testing.T) {
	for _, n := range []int{0, 1, 2, 64, 127, 129, 130, 192, 255, 257, 384 - 1, 128*api.MaxSectors - 1, 128*api.MaxSectors + 1, 128*api.MaxSectors - 64, 128*api.MaxSectors + 128, 128 * 4097, 256 * api.MaxSectors} {
		if d, e := disk.New(noughts(n)); d != nil || e != api.ErrDiskSize {
			t.Errorf("New of %d bytes: %v, %d", n, d != nil, e)
		}
	}
}

func TestNewOfRightSizes(t *testing.T) {
	rnd := rand.New(rand.NewSource(1))
	for _, n := range []int{1, 2, 3, 5, 127, 128, 129, 4095, 4096} {
		image := anyBytes(rnd, 128*n)
		d := diskOf(t, image)
		wantAsModel(t, n, d, modelOf(image), nil, slices.Repeat([]int{128}, n), slices.Repeat([]int{9}, n+1))
	}
}

// P7.2

func TestReadOfWrongPlaces(t *testing.T) {
	for _, n := range []int{1, 2, 9, 4096} {
		d := diskOf(t, noughts(128*n))
		for _, at := range noPlaces(n) {
			wantRead(t, "no such sector", d, at, "", api.ErrDiskAt)
		}
		d.Crash(nil)
		for _, at := range append(noPlaces(n), 0, n-1) {
			wantRead(t, "without power", d, at, "", api.ErrDead)
		}
	}
}

func TestWhatIsTold(t *testing.T) {
	a, b, c, x := filled("a"), filled("b"), filled("c"), filled("xy")
	d := diskOf(t, a+b+c)
	d.Write(2, x)
	wantRead(t, "safe", d, 1, b, api.OK)
	wantRead(t, "unsafe", d, 2, x, api.OK)
	wantAll(t, "one is unsafe", d, a+b+x, a+b+c)
	d.Write(0, c)
	wantAll(t, "two are unsafe", d, c+b+x, a+b+c)
	wantWaiting(t, "two are unsafe", d, 0, 2)
	d.Write(2, c)
	wantAll(t, "one was written again", d, c+b+c, a+b+c)
	wantWaiting(t, "as it was written, it is unsafe, though it is as it was", d, 0, 2)
	d.Flush(0, 1)
	wantAll(t, "one is flushed", d, c+b+c, c+b+c)
	wantWaiting(t, "one is flushed", d, 2)
	if d.Count() != 3 {
		t.Error("Count", d.Count())
	}
	wantDead(t, "with power", d, false)
}

// But for Read, all is told without power, too.
func TestWhatIsToldWithoutPower(t *testing.T) {
	a, b, x := filled("a"), filled("b"), filled("x")
	d := diskOf(t, a+b)
	d.Write(0, x)
	d.Write(1, x)
	want(t, "Crash", d.Crash([]int{128, 2}), api.OK)
	wantDead(t, "without power", d, true)
	left := x + "xx" + b[2:]
	wantAll(t, "without power", d, left, left)
	wantText(t, "After without power", d.After([]int{1, 128}), left)
	wantWaiting(t, "without power", d)
	if d.Count() != 2 {
		t.Error("Count", d.Count())
	}
}

func TestWaitingRises(t *testing.T) {
	rnd := rand.New(rand.NewSource(2))
	d := diskOf(t, noughts(128*api.MaxSectors))
	var all []int
	for _, at := range rnd.Perm(api.MaxSectors)[:700] {
		d.Write(at, filled("x"))
		all = append(all, at)
	}
	slices.Sort(all)
	wantWaiting(t, "700 of them", d, all...)
	d.Flush(0, api.MaxSectors)
	wantWaiting(t, "none", d)
}

// What choices leave of a sector, for each choice.
func TestAfterEachChoice(t *testing.T) {
	rnd := rand.New(rand.NewSource(3))
	old, new := anyBytes(rnd, 128), anyBytes(rnd, 128)
	d := diskOf(t, filled("-")+old+filled("="))
	d.Write(1, new)
	for c := -3; c < 300; c++ {
		torn := new[:min(max(c, 0), 128)] + old[min(max(c, 0), 128):]
		wantText(t, "a choice", d.After([]int{128, c, 128}), filled("-")+torn+filled("="))
		wantText(t, "the last choice", d.After([]int{128, c}), filled("-")+torn+filled("="))
	}
	for c, s := range map[int]string{math.MinInt: old, -1 << 32: old, 1 << 32: new, math.MaxInt: new, 127: new[:127] + old[127:], 128: new} {
		wantText(t, "a far choice", d.After([]int{0, c}), filled("-")+s+filled("="))
	}
	for _, none := range [][]int{nil, {}, {128}, {128, 0, 128}, {128, math.MinInt}} {
		wantText(t, "no choice", d.After(none), filled("-")+old+filled("="))
	}
	wantAll(t, "After changes nothing", d, filled("-")+new+filled("="), filled("-")+old+filled("="))
	wantWaiting(t, "After changes nothing", d, 1)
	wantDead(t, "After changes nothing", d, false)
}

// More choices than sectors: those behind the last one say nothing.
func TestChoicesOfNoSector(t *testing.T) {
	d := two(t)
	d.Write(0, filled("a"))
	many := append([]int{0, 0}, slices.Repeat([]int{128}, 1<<16)...)
	wantText(t, "After", d.After(many), noughts(256))
	c := d.Clone()
	want(t, "Crash", c.Crash(many), api.OK)
	wantAll(t, "Crash", c, noughts(256), noughts(256))
	want(t, "Arm", d.Arm(1, many), api.OK)
	want(t, "Flush", d.Flush(0, 0), api.ErrDead)
	wantAll(t, "Arm", d, noughts(256), noughts(256))
}

// P7.3

func TestWriteRefused(t *testing.T) {
	for _, n := range []int{1, 2, 9} {
		image := filled("-") + noughts(128*n)
		d := diskOf(t, image)
		for _, at := range noPlaces(n + 1) {
			for _, s := range []string{filled("a"), "", "a", filled("a") + "a"} {
				want(t, "no such sector", d.Write(at, s), api.ErrDiskAt)
			}
		}
		for _, size := range []int{0, 1, 127, 129, 256, 1 << 16} {
			want(t, "not 128 bytes", d.Write(n, noughts(size)), api.ErrDiskLong)
		}
		wantAll(t, "what is refused changes nothing", d, image, image)
		wantWaiting(t, "what is refused changes nothing", d)
		d.Crash(nil)
		for _, at := range append(noPlaces(n+1), 0, n) {
			want(t, "without power", d.Write(at, filled("a")), api.ErrDead)
			want(t, "without power", d.Write(at, ""), api.ErrDead)
		}
		wantAll(t, "what is refused changes nothing", d, image, image)
	}
}

func TestFlushRefused(t *testing.T) {
	d := diskOf(t, noughts(128*5))
	for at := range 5 {
		d.Write(at, filled("a"))
	}
	wrong := [][2]int{
		{-1, 0}, {-1, 1}, {-1, 2}, {-1, 6}, {0, -1}, {5, -1}, {3, -2}, {-1, -1}, {0, 6}, {1, 5}, {5, 1}, {6, 0}, {6, -1}, {6, -6}, {4, 2}, {7, -2},
		{math.MaxInt, 0}, {0, math.MaxInt}, {math.MaxInt, 1}, {1, math.MaxInt}, {5, math.MaxInt}, {math.MaxInt, math.MaxInt}, {math.MaxInt - 3, 5},
		{math.MinInt, 0}, {0, math.MinInt}, {math.MinInt, math.MinInt}, {math.MinInt, math.MaxInt}, {math.MaxInt, math.MinInt}, {1 << 62, 1 << 62}, {1 << 32, 0}, {0, 1 << 32},
	}
	for _, x := range wrong {
		want(t, "no such sectors", d.Flush(x[0], x[1]), api.ErrDiskAt)
	}
	wantWaiting(t, "what is refused changes nothing", d, 0, 1, 2, 3, 4)
	wantText(t, "what is refused changes nothing", d.Safe(), noughts(128*5))
	d.Crash(nil)
	for _, x := range append(wrong, [2]int{0, 0}, [2]int{0, 5}, [2]int{5, 0}) {
		want(t, "without power", d.Flush(x[0], x[1]), api.ErrDead)
	}
}

// Of each row of sectors that there is: just these are flushed.
func TestFlushEachRow(t *testing.T) {
	const n = 6
	rnd := rand.New(rand.NewSource(4))
	image := anyBytes(rnd, 128*n)
	for first := range n + 1 {
		for count := range n - first + 1 {
			for unsafe := range 1 << n {
				d, m := diskOf(t, image), modelOf(image)
				for at := range n {
					if unsafe>>at&1 == 1 {
						s := anyBytes(rnd, 128)
						d.Write(at, s)
						m.write(at, s)
					}
				}
				want(t, "Flush", d.Flush(first, count), m.flush(first, count))
				wantAsModel(t, [3]int{first, count, unsafe}, d, m, nil, slices.Repeat([]int{50}, n))
			}
		}
	}
}

// What was flushed is left, and what is written over it again is unsafe again.
func TestWriteBehindFlush(t *testing.T) {
	a, b := filled("a"), filled("b")
	d := two(t)
	d.Write(0, a)
	d.Flush(0, 2)
	wantText(t, "flushed", d.After([]int{0, 0}), a+noughts(128))
	d.Write(0, b)
	wantWaiting(t, "again", d, 0)
	wantText(t, "again", d.After([]int{1}), b[:1]+a[1:]+noughts(128))
	d.Write(0, noughts(128))
	wantText(t, "what was written ahead of the last write is nowhere", d.After([]int{64}), noughts(64)+a[64:]+noughts(128))
}

// P7.4

func TestArmRefused(t *testing.T) {
	a := filled("a")
	d := two(t)
	for _, n := range []int{-1, -2, -1 << 32, math.MinInt} {
		want(t, "below 0", d.Arm(n, []int{128}), api.ErrArg)
	}
	want(t, "nothing was armed", d.Write(0, a), api.OK)
	want(t, "Arm", d.Arm(2, []int{0, 128}), api.OK)
	want(t, "below 0", d.Arm(-1, []int{128, 128}), api.ErrArg)
	want(t, "what was armed is", d.Write(0, a), api.OK)
	want(t, "what was armed is", d.Write(1, a), api.ErrDead)
	wantAll(t, "what was armed is", d, noughts(128)+a, noughts(128)+a)
	for _, n := range []int{-1, 0, 1, 2, math.MinInt, math.MaxInt} {
		want(t, "without power", d.Arm(n, nil), api.ErrDead)
	}
	want(t, "without power", d.Crash([]int{128}), api.ErrDead)
	d.Revive()
	for range 5 {
		want(t, "what was refused is not armed", d.Write(0, a), api.OK)
	}
}

// The power goes in the n-th change, not ahead of it: writes and flushes count, whatever they change.
func TestArmEachNumber(t *testing.T) {
	changes := []func(d *disk.Disk) api.Errno{
		func(d *disk.Disk) api.Errno { return d.Write(0, filled("a")) },
		func(d *disk.Disk) api.Errno { return d.Flush(0, 2) },
		func(d *disk.Disk) api.Errno { return d.Flush(2, 0) },
		func(d *disk.Disk) api.Errno { return d.Write(1, noughts(128)) },
	}
	for n := 1; n < 20; n++ {
		d := two(t)
		want(t, "Arm", d.Arm(n, nil), api.OK)
		for i := 1; i < n; i++ {
			want(t, "ahead of the last one", changes[i%4](d), api.OK)
			wantDead(t, "ahead of the last one", d, false)
		}
		want(t, "the last one", changes[n%4](d), api.ErrDead)
		wantDead(t, "the last one", d, true)
		d.Revive()
		for i := range 30 {
			want(t, "behind it", changes[i%4](d), api.OK)
		}
	}
}

// Neither calls that are refused nor those that only tell something count.
func TestWhatDoesNotCount(t *testing.T) {
	d := two(t)
	want(t, "Arm", d.Arm(2, nil), api.OK)
	for range 4 {
		d.Write(2, filled("a"))
		d.Write(-1, filled("a"))
		d.Write(0, "a")
		d.Flush(0, 3)
		d.Flush(-1, 1)
		d.Flush(0, -1)
		d.Arm(-1, nil)
		d.Read(0)
		d.Read(2)
		d.Image()
		d.After(nil)
		d.Clone().Flush(0, 2)
	}
	want(t, "the first change", d.Flush(0, 0), api.OK)
	d.Write(2, "")
	want(t, "the second one", d.Flush(0, 0), api.ErrDead)
}

// A Write in which the power goes has written, a Flush has done nothing.
func TestTheLastChange(t *testing.T) {
	a, b := filled("a"), filled("b")
	for c, left := range map[int]string{0: noughts(128), 5: a[:5] + noughts(123), 128: a} {
		d := two(t)
		d.Write(1, b)
		d.Arm(1, []int{c, 9})
		want(t, "Write", d.Write(0, a), api.ErrDead)
		wantAll(t, "Write", d, left+b[:9]+noughts(119), left+b[:9]+noughts(119))
		wantWaiting(t, "Write", d)

		d = two(t)
		d.Write(0, a)
		d.Write(1, b)
		d.Arm(1, []int{c})
		want(t, "Flush", d.Flush(0, 2), api.ErrDead)
		wantAll(t, "Flush", d, left+noughts(128), left+noughts(128))
		wantWaiting(t, "Flush", d)
	}
	d := two(t)
	d.Write(0, a)
	d.Arm(1, []int{3, 128})
	want(t, "a Write over an unsafe one", d.Write(0, b), api.ErrDead)
	wantAll(t, "a Write over an unsafe one", d, "bbb"+noughts(253), "bbb"+noughts(253))
}

func TestArmAgain(t *testing.T) {
	a := filled("a")
	d := two(t)
	d.Arm(1, []int{128, 128})
	d.Arm(3, []int{0, 4})
	want(t, "armed later", d.Write(0, a), api.OK)
	want(t, "armed later", d.Write(1, a), api.OK)
	want(t, "armed later", d.Write(1, a), api.ErrDead)
	wantText(t, "armed later", d.Image(), noughts(128)+"aaaa"+noughts(124))

	d = two(t)
	d.Arm(9, nil)
	d.Arm(1, []int{7})
	want(t, "armed sooner", d.Write(0, a), api.ErrDead)
	wantText(t, "armed sooner", d.Image(), a[:7]+noughts(249))

	d = two(t)
	d.Arm(1, []int{128})
	want(t, "Arm(0)", d.Arm(0, []int{128}), api.OK)
	for range 9 {
		want(t, "nothing is armed", d.Write(0, a), api.OK)
		want(t, "nothing is armed", d.Flush(0, 1), api.OK)
	}
	d.Arm(math.MaxInt, nil)
	for range 9 {
		want(t, "far away", d.Write(0, a), api.OK)
	}
}

func TestCrash(t *testing.T) {
	rnd := rand.New(rand.NewSource(5))
	old, new := anyBytes(rnd, 128*4), anyBytes(rnd, 128*4)
	for c := -2; c < 132; c++ {
		d := diskOf(t, old)
		for at := range 3 {
			d.Write(at, new[128*at:][:128])
		}
		d.Flush(2, 1)
		n := min(max(c, 0), 128)
		left := new[:n] + old[n:256] + new[256:384] + old[384:]
		want(t, "Crash", d.Crash([]int{c, 0, c, c}), api.OK)
		wantAll(t, "Crash", d, left, left)
		wantDead(t, "Crash", d, true)
		want(t, "a second one", d.Crash([]int{128, 128, 128, 128}), api.ErrDead)
		wantAll(t, "a second one", d, left, left)
		d.Revive()
		wantDead(t, "Revive", d, false)
		wantAll(t, "Revive", d, left, left)
		wantWaiting(t, "Revive", d)
		for at := range 4 {
			wantRead(t, "Revive", d, at, left[128*at:][:128], api.OK)
		}
	}
}

// Nothing is armed behind a crash, of whichever kind, and behind Revive.
func TestNothingIsArmedAnyMore(t *testing.T) {
	a := filled("a")
	quiet := func(what string, d *disk.Disk) {
		t.Helper()
		for range 9 {
			want(t, what, d.Write(0, a), api.OK)
			want(t, what, d.Flush(0, 1), api.OK)
		}
	}
	d := two(t)
	d.Arm(3, []int{128})
	d.Crash(nil)
	d.Revive()
	quiet("behind Crash", d)
	d.Arm(1, nil)
	d.Write(0, a)
	d.Revive()
	quiet("behind the armed one", d)
	d.Arm(3, nil)
	d.Write(1, a)
	d.Revive()
	wantDead(t, "Revive of one that has power", d, false)
	wantWaiting(t, "Revive of one that has power", d, 1)
	wantAll(t, "Revive of one that has power", d, a+a, a+noughts(128))
	quiet("behind Revive of one that has power", d)
}

// R4: choices are neither kept nor changed, nor the room behind them.
func TestChoicesAreLeft(t *testing.T) {
	room := []int{5, 128, 77, 78, 79}
	choices, before := room[:2], slices.Clone(room)
	d := two(t)
	d.Write(0, filled("a"))
	d.Write(1, filled("b"))
	d.Arm(1, choices)
	d.After(choices)
	d.Clone().Crash(choices)
	if !slices.Equal(room, before) {
		t.Errorf("choices are %v, not %v", room, before)
	}
	clear(room)
	want(t, "the last change", d.Flush(0, 2), api.ErrDead)
	wantText(t, "armed with what the choices were", d.Image(), "aaaaa"+noughts(123)+filled("b"))
	if !slices.Equal(room, make([]int, 5)) {
		t.Errorf("choices are %v", room)
	}
}

func TestWaitingIsNew(t *testing.T) {
	d := diskOf(t, noughts(128*5))
	for _, at := range []int{4, 1, 3} {
		d.Write(at, filled("a"))
	}
	l := d.Waiting()
	l = append(l, 7)
	clear(l)
	l = append(l[:0], 9, 9, 9)
	wantWaiting(t, "behind a change of what was answered", d, 1, 3, 4)
	first, second := d.Waiting(), d.Waiting()
	first[0] = 0
	if second[0] != 1 {
		t.Error("two answers share", l, second)
	}
}

// P7.5

func TestClone(t *testing.T) {
	a, b, c := filled("a"), filled("b"), filled("c")
	d := two(t)
	d.Write(0, a)
	e := d.Clone()
	if e == nil || e == d {
		t.Fatalf("%p is no other one than %p", e, d)
	}
	e.Write(0, b)
	e.Write(1, b)
	wantAll(t, "the original", d, a+noughts(128), noughts(256))
	wantWaiting(t, "the original", d, 0)
	d.Write(1, c)
	d.Flush(0, 1)
	wantAll(t, "the clone", e, b+b, noughts(256))
	wantWaiting(t, "the clone", e, 0, 1)
	e.Flush(0, 2)
	e.Crash(nil)
	wantAll(t, "the original", d, a+c, a+noughts(128))
	wantDead(t, "the original", d, false)
	f := e.Clone()
	wantDead(t, "a clone of a dead one", f, true)
	wantAll(t, "a clone of a dead one", f, b+b, b+b)
	want(t, "a clone of a dead one", f.Write(0, a), api.ErrDead)
	e.Revive()
	wantDead(t, "a clone of a dead one", f, true)
	d.Crash([]int{0, 2})
	wantAll(t, "the clone", e, b+b, b+b)
	wantDead(t, "the clone", e, false)
}

// What is armed goes on by itself in a clone.
func TestCloneOfAnArmedOne(t *testing.T) {
	a := filled("a")
	d := two(t)
	d.Arm(3, []int{1, 2})
	d.Write(0, a)
	e := d.Clone()
	d.Write(1, a)
	want(t, "the original's third change", d.Write(1, a), api.ErrDead)
	wantText(t, "the original", d.Image(), "a"+noughts(127)+"aa"+noughts(126))
	d.Revive()
	d.Arm(5, []int{128, 128})
	wantDead(t, "the clone", e, false)
	want(t, "the clone's second change", e.Write(0, a), api.OK)
	want(t, "the clone's third change", e.Flush(0, 2), api.ErrDead)
	wantText(t, "the clone", e.Image(), "a"+noughts(255))

	d = two(t)
	d.Arm(1, []int{64})
	e = d.Clone()
	e.Arm(0, nil)
	want(t, "a clone that is not armed any more", e.Write(0, a), api.OK)
	want(t, "its original", d.Write(0, a), api.ErrDead)
	wantText(t, "its original", d.Image(), a[:64]+noughts(192))
}

// P7.6

func TestAfterIsTheImageOfACloneBehindACrash(t *testing.T) {
	rnd := rand.New(rand.NewSource(6))
	for range 3000 {
		n := 1 + rnd.Intn(6)
		d := diskOf(t, anyBytes(rnd, 128*n))
		for range rnd.Intn(12) {
			if x := anyStep(rnd, n); x.kind == write || x.kind == flush {
				x.onDisk(d)
			}
		}
		choices := anyChoices(rnd, n)
		left, safe, waiting, image := d.After(choices), d.Safe(), d.Waiting(), d.Image()
		c := d.Clone()
		want(t, "Crash", c.Crash(choices), api.OK)
		wantAll(t, "a clone behind a crash", c, left, left)
		wantAll(t, "its original", d, image, safe)
		for at := range n {
			if !slices.Contains(waiting, at) && left[128*at:][:128] != safe[128*at:][:128] {
				t.Errorf("sector %d was not unsafe, and is not left", at)
			}
		}
		if c.Crash(choices) != api.ErrDead || c.After(choices) != left {
			t.Error("After of a dead one is not its Image")
		}
	}
}

// If the last byte that is unlike is new, the whole sector is; else that byte is old.
func TestTheLastByteThatIsUnlike(t *testing.T) {
	rnd := rand.New(rand.NewSource(8))
	for last := range 128 {
		old := []byte(anyBytes(rnd, 128))
		new := slices.Clone(old)
		new[last] ^= byte(1 + rnd.Intn(255))
		for at := range last {
			if rnd.Intn(2) == 0 {
				new[at] ^= byte(1 + rnd.Intn(255))
			}
		}
		d := diskOf(t, string(old))
		d.Write(0, string(new))
		for c := -1; c < 131; c++ {
			left := d.After([]int{c})
			if isNew := left[last] == new[last]; isNew != (left == string(new)) || isNew != (c > last) {
				t.Errorf("choice %d, the last unlike byte %d: %q of %q and %q", c, last, left, old, new)
			}
		}
	}
}

// R5: of many unsafe sectors the same is told each time, however a map is gone through.
func TestTheSameEachTime(t *testing.T) {
	rnd := rand.New(rand.NewSource(9))
	d := diskOf(t, anyBytes(rnd, 128*300))
	for at := range 300 {
		d.Write(at, anyBytes(rnd, 128))
	}
	choices := anyChoices(rnd, 300)
	left, image, waiting := d.After(choices), d.Image(), d.Waiting()
	for range 50 {
		c := d.Clone()
		if d.After(choices) != left || d.Image() != image || !slices.Equal(c.Waiting(), waiting) {
			t.Fatal("told otherwise")
		}
		c.Arm(1, choices)
		c.Flush(0, 300)
		wantAll(t, "a clone", c, left, left)
	}
}
