package server_test

import (
	"slices"
	"strings"
	"testing"

	"castellan/api"
	"castellan/volume"
)

// P18.3: what is done, and what is told of it.

func TestEachKindDoesWhatItSays(t *testing.T) {
	b := one(t)
	b.ask(0, mkdir(0, "/d"), ok(""))
	b.wantEntries(0, dir("/d"))
	b.ask(0, create(0, "/d/f"), ok(""))
	b.wantEntries(0, dir("/d"), file("/d/f", ""))
	b.ask(0, write(0, "/d/f", 0, "keep"), ok(""))
	b.wantEntries(0, dir("/d"), file("/d/f", "keep"))
	b.ask(0, write(0, "/d/f", 3, "s\x00\xff"), ok(""))
	b.wantEntries(0, dir("/d"), file("/d/f", "kees\x00\xff"))
	b.ask(0, read(0, "/d/f", 2, 3), ok("es\x00"))
	b.ask(0, list(0, "/d", 0), ok("f\n"))
	b.ask(0, stat(0, "/d/f"), ok("\x01\x00\x06"))
	b.ask(0, stat(0, "/d"), ok("\x02\x00\x01"))
	b.ask(0, rename(0, "/d/f", "/g"), ok(""))
	b.wantEntries(0, dir("/d"), file("/g", "kees\x00\xff"))
	b.ask(0, remove(0, "/d"), ok(""))
	b.ask(0, sync(0, "/"), ok(""))
	b.wantEntries(0, file("/g", "kees\x00\xff"))
}

func TestVolumesErrorsAreTold(t *testing.T) {
	b := one(t)
	b.asks(mkdir(0, "/d"), create(0, "/d/f"), create(0, "/f"), write(0, "/f", 0, "abc"))
	for _, path := range []string{"/g", "/h", "/i"} {
		b.asks(create(0, path))
		want(t, "Write", b.volumes[0].Write(path, 0, noughts(min(1024, b.volumes[0].Free()-10))), api.OK)
	}
	before, image := b.volumes[0].Entries(), b.disks[0].Image()
	for _, x := range []struct {
		request string
		e       api.Errno
	}{
		{mkdir(0, "d"), api.ErrVolumePath}, {mkdir(0, "/d"), api.ErrVolumeDone}, {mkdir(0, "/x/y"), api.ErrVolumeNone}, {mkdir(0, "/f/y"), api.ErrVolumeKind}, {mkdir(0, "/long-as-that"), api.ErrVolumeFull},
		{create(0, "d"), api.ErrVolumePath}, {create(0, "/"), api.ErrVolumeDone}, {create(0, "/x/y"), api.ErrVolumeNone}, {create(0, "/f/y"), api.ErrVolumeKind}, {create(0, "/long-as-that"), api.ErrVolumeFull},
		{write(0, "", 0, ""), api.ErrVolumePath}, {write(0, "/x", 0, ""), api.ErrVolumeNone}, {write(0, "/d", 0, ""), api.ErrVolumeKind}, {write(0, "/f", 4, ""), api.ErrArg}, {write(0, "/f", 65535, ""), api.ErrArg}, {write(0, "/f", 3, strings.Repeat("x", 100)), api.ErrVolumeFull},
		{remove(0, "/d/"), api.ErrVolumePath}, {remove(0, "/x"), api.ErrVolumeNone}, {remove(0, "/"), api.ErrVolumeKind}, {remove(0, "/d"), api.ErrVolumeBusy},
		{rename(0, "", "/x"), api.ErrVolumePath}, {rename(0, "/f", "x"), api.ErrVolumePath}, {rename(0, "/x", "/y"), api.ErrVolumeNone}, {rename(0, "/d", "/y"), api.ErrVolumeKind}, {rename(0, "/f", "/d"), api.ErrVolumeDone}, {rename(0, "/f", "/x/y"), api.ErrVolumeNone}, {rename(0, "/d/f", "/f/f"), api.ErrVolumeKind},
		{read(0, "\x00", 0, 0), api.ErrVolumePath}, {read(0, "/x", 0, 0), api.ErrVolumeNone}, {read(0, "/", 0, 0), api.ErrVolumeKind}, {read(0, "/f", 4, 0), api.ErrArg}, {read(0, "/f", 65535, 65535), api.ErrArg},
		{list(0, "/A", 0), api.ErrVolumePath}, {list(0, "/x", 0), api.ErrVolumeNone}, {list(0, "/f", 0), api.ErrVolumeKind}, {list(0, "/f", 9), api.ErrVolumeKind},
		{stat(0, "/.."), api.ErrVolumePath}, {stat(0, "/x"), api.ErrVolumeNone},
	} {
		b.ask(0, x.request, told(x.e))
	}
	if !slices.Equal(b.volumes[0].Entries(), before) || b.disks[0].Image() != image {
		t.Error("what was refused has changed something")
	}
}

func TestTooLongAFileIsTold(t *testing.T) {
	b := one(t)
	b.asks(create(0, "/f"))
	want(t, "Write", b.volumes[0].Write("/f", 0, noughts(1000)), api.OK)
	b.ask(0, write(0, "/f", 1000, noughts(25)), told(api.ErrVolumeLong))
	b.ask(0, write(0, "/f", 1000, noughts(24)), ok(""))
	b.ask(0, write(0, "/f", 1024, "x"), told(api.ErrVolumeLong))
	b.ask(0, stat(0, "/f"), ok("\x01\x04\x00"))
}

// All bytes of a request's numbers count.
func TestNumbersOfTwoBytes(t *testing.T) {
	b := one(t)
	b.asks(create(0, "/f"))
	data := ""
	for i := range 1000 {
		data += string([]byte{byte(i*7 + i/256)})
	}
	want(t, "Write", b.volumes[0].Write("/f", 0, data), api.OK)
	for _, at := range []int{0, 1, 2, 254, 255, 256, 257, 258, 511, 512, 513, 767, 768, 999, 1000} {
		for _, n := range []int{0, 1, 2, 255, 256, 257, 511, 512, 1000, 1024, 32768, 65280, 65535} {
			b.ask(0, read(0, "/f", at, n), ok(data[at:min(at+n, 1000)]))
		}
	}
	for _, at := range []int{1001, 1255, 1256, 1 << 15, 0xff00, 0xffff} {
		b.ask(0, read(0, "/f", at, 1), told(api.ErrArg))
		b.ask(0, write(0, "/f", at, "x"), told(api.ErrArg))
	}
	for _, at := range []int{0, 1, 255, 256, 257, 512, 998, 999, 1000, 1001, 1002} {
		b.ask(0, write(0, "/f", at, "<>"), ok(""))
		data = data[:at] + "<>" + data[min(at+2, len(data)):]
		b.wantEntries(0, file("/f", data))
	}
	want(t, "Remove", b.volumes[0].Remove("/f"), api.OK)
	for n := range 270 {
		path := "/" + string([]byte{byte('a' + n/26), byte('a' + n%26)})
		b.ask(0, stat(0, "/"), ok("\x02"+num(n)))
		if n == 0 || n == 1 || n >= 250 {
			b.ask(0, list(0, "/", n), ok(""))
			b.ask(0, list(0, "/", max(0, n-2)), ok(strings.Join(namesFrom(n, max(0, n-2)), "")))
		}
		want(t, "Mkdir", b.volumes[0].Mkdir(path), api.OK)
	}
}

// namesFrom are those with which TestNumbersOfTwoBytes fills a directory, from a place on.
func namesFrom(n, at int) []string {
	var l []string
	for ; at < n; at++ {
		l = append(l, string([]byte{byte('a' + at/26), byte('a' + at%26), '\n'}))
	}
	return l
}

func TestStat(t *testing.T) {
	b := one(t)
	b.ask(0, stat(0, "/"), ok("\x02\x00\x00"))
	b.asks(create(0, "/f"), mkdir(0, "/d"))
	b.ask(0, stat(0, "/"), ok("\x02\x00\x02"))
	for _, n := range []int{0, 1, 2, 3, 127, 128, 255, 256, 257, 511, 512, 1023, 1024} {
		want(t, "Write", b.volumes[0].Write("/f", min(n, sizeOf(t, b, "/f")), noughts(n-sizeOf(t, b, "/f"))), api.OK)
		b.ask(0, stat(0, "/f"), ok("\x01"+num(n)))
	}
	b.ask(0, stat(0, "/d"), ok("\x02\x00\x00"))
	for n := range 5 {
		b.asks(mkdir(0, "/d/"+string(rune('a'+n))))
		b.ask(0, stat(0, "/d"), ok("\x02"+num(n+1)))
		b.ask(0, stat(0, "/"), ok("\x02\x00\x02"))
	}
}

func sizeOf(t *testing.T, b *bed, path string) int {
	t.Helper()
	_, n, e := b.volumes[0].Stat(path)
	want(t, "Stat", e, api.OK)
	return n
}

func TestListFromEachPlace(t *testing.T) {
	b := one(t)
	b.ask(0, list(0, "/", 0), ok(""))
	b.ask(0, list(0, "/", 1), ok(""))
	b.asks(mkdir(0, "/d"), create(0, "/d/c"), create(0, "/d/a.b"), mkdir(0, "/d/b"), create(0, "/d/b/x"), create(0, "/e"))
	for at, s := range []string{"a.b\nb\nc\n", "b\nc\n", "c\n", "", "", ""} {
		b.ask(0, list(0, "/d", at), ok(s))
	}
	for _, at := range []int{6, 255, 256, 257, 258, 512, 1 << 15, 0xff00, 0xffff} {
		b.ask(0, list(0, "/d", at), ok(""))
	}
	b.ask(0, list(0, "/", 0), ok("d\ne\n"))
	b.ask(0, list(0, "/d/b", 0), ok("x\n"))
}

// As many names as have 200 bytes at most with their ends: fifteen of twelve bytes, and one more of up to four.
func TestListOfManyNames(t *testing.T) {
	long := func(n int) string { return "name-of-12-" + string(rune('a'+n)) }
	first := ""
	for n := range 15 {
		first += long(n) + "\n"
	}
	for last := 1; last <= 12; last++ {
		b := one(t)
		for n := range 15 {
			want(t, "Mkdir", b.volumes[0].Mkdir("/"+long(n)), api.OK)
		}
		b.ask(0, list(0, "/", 0), ok(first))
		name := strings.Repeat("o", last)
		want(t, "Mkdir", b.volumes[0].Mkdir("/"+name), api.OK)
		want(t, "Mkdir", b.volumes[0].Mkdir("/z"), api.OK)
		all := first + name + "\n"
		switch {
		case len(all)+2 <= 200:
			b.ask(0, list(0, "/", 0), ok(all+"z\n"))
		case len(all) <= 200:
			b.ask(0, list(0, "/", 0), ok(all))
		default:
			// What is behind a name that has no room is not told in its place.
			b.ask(0, list(0, "/", 0), ok(first))
		}
		b.ask(0, list(0, "/", 1), ok(first[13:]+name+"\n"+"z\n"))
		b.ask(0, list(0, "/", 15), ok(name+"\nz\n"))
		b.ask(0, list(0, "/", 16), ok("z\n"))
		b.ask(0, list(0, "/", 17), ok(""))
	}
}

// A partition that lists from behind what it was told comes to have all names.
func TestListToTheEnd(t *testing.T) {
	b := one(t)
	var names []string
	for n := range 120 {
		names = append(names, strings.Repeat(string(rune('a'+n%26)), 1+n/26)+"-"+strings.Repeat("x", n%7))
		want(t, "Create", b.volumes[0].Create("/"+names[n]), api.OK)
	}
	slices.Sort(names)
	var got []string
	for range 120 {
		wantSubmit(t, b.s, 0, list(0, "/", len(got)), api.OK)
		wantServe(t, b.s, 0, true, api.OK)
		s, e := b.s.Reply(0)
		want(t, "Reply", e, api.OK)
		if s == ok("") {
			break
		}
		l := strings.Split(strings.TrimSuffix(s[1:], "\n"), "\n")
		got = append(got, l...)
		if rest := names[len(got):]; len(s) > 201 || len(rest) > 0 && len(s)+len(rest[0])+1 <= 201 {
			t.Fatalf("a reply of %d bytes ahead of %q", len(s), rest)
		}
	}
	if !slices.Equal(got, names) {
		t.Errorf("%q, not %q", got, names)
	}
}

// What is no request's bytes.

func TestKindsThatAreNone(t *testing.T) {
	b := one(t)
	for kind := range 256 {
		is := kind >= 1 && kind <= 9
		for _, behind := range []string{"", "\x00\x00", num(0) + num(0), short("/x")} {
			request := head(kind, 0, "/a") + behind
			wantSubmit(t, b.s, 0, request, api.OK)
			wantServe(t, b.s, 0, true, api.OK)
			if s, e := b.s.Reply(0); e != api.OK || !is && s != told(api.ErrServerText) {
				t.Errorf("%q: %q, %d", request, s, e)
			}
		}
	}
}

func TestRequestsThatAreTooShortOrTooLong(t *testing.T) {
	b := pair(t)
	for _, request := range append(ofAllKinds(0, "/a/b"), ofAllKinds(0, "")...) {
		isWrite := request[0] == 3
		// Of a write all that is behind its number is data, however few.
		least := len(request)
		if isWrite {
			least -= len("data")
		}
		for n := range least {
			b.ask(0, request[:n], told(api.ErrServerText))
		}
		for _, more := range []string{"\x00", "a", "\xff\xff", noughts(100)} {
			if !isWrite {
				b.ask(0, request+more, told(api.ErrServerText))
			}
		}
		// So it is told whatever the level: that its bytes are none stands ahead of that.
		for _, level := range []byte{1, 2, 255} {
			other := request[:1] + string([]byte{level}) + request[2:]
			b.ask(0, other[:least-1], told(api.ErrServerText))
			if !isWrite {
				b.ask(0, other+"\x00", told(api.ErrServerText))
			}
		}
	}
	b.wantEntries(0)
	b.wantEntries(1)
}

// A path that is said to be longer than what is left ends behind the request's bytes.
func TestPathsOfAllLengths(t *testing.T) {
	b := one(t)
	for n := range 253 {
		path := strings.Repeat("/", n)
		e := api.ErrVolumePath
		if n == 1 {
			e = api.OK
		}
		wantSubmit(t, b.s, 0, stat(0, path), api.OK)
		wantServe(t, b.s, 0, true, api.OK)
		if s, _ := b.s.Reply(0); s[:1] != told(e) {
			t.Errorf("stat of a path of %d bytes: %q", n, s)
		}
		for _, more := range []int{1, 2, 255 - n} {
			b.ask(0, "\x08\x00"+string([]byte{byte(n + more)})+path, told(api.ErrServerText))
		}
		if n < 250 {
			e := api.ErrVolumePath
			if n == 1 {
				e = api.ErrVolumeNone
			}
			b.ask(0, rename(0, "/x", path), told(e))
			b.ask(0, "\x05\x00"+short("/")+string([]byte{byte(n + 1)})+path, told(api.ErrServerText))
		}
	}
}

func TestWriteOfAllThatIsLeft(t *testing.T) {
	b := one(t)
	b.asks(create(0, "/f"))
	b.asks(write(0, "/f", 0, ""))
	b.wantEntries(0, file("/f", ""))
	data := ""
	for n := range 30 {
		more := strings.Repeat(string([]byte{byte(n)}), n)
		b.asks(write(0, "/f", len(data), more))
		data += more
		b.wantEntries(0, file("/f", data))
	}
}

// Which levels.

func TestLevelsOfAllKinds(t *testing.T) {
	l := diamond(t)
	for own := range 4 {
		b := bedOf(t, l, own)
		for level := range 4 {
			want(t, "Create", b.volumes[level].Create("/f"), api.OK)
			want(t, "Write", b.volumes[level].Write("/f", 0, "level "+string(rune('0'+level))), api.OK)
		}
		for level := range 256 {
			for _, request := range []string{read(level, "/f", 0, 99), list(level, "/", 0), stat(level, "/f")} {
				reply := map[byte]string{6: "level " + string(rune('0'+level)), 7: "f\n", 8: "\x01\x00\x07"}[request[0]]
				if l.Flows(level, own) {
					b.ask(0, request, ok(reply))
				} else {
					b.ask(0, request, told(api.ErrServerLevel))
				}
			}
			for _, request := range []string{mkdir(level, "/d"), create(level, "/g"), write(level, "/f", 0, "x"), remove(level, "/f"), rename(level, "/f", "/h"), sync(level, "/")} {
				if level != own {
					b.ask(0, request, told(api.ErrServerLevel))
				}
			}
			if level < 4 {
				b.wantEntries(level, file("/f", "level "+string(rune('0'+level))))
			}
		}
		b.asks(mkdir(own, "/d"), create(own, "/g"), write(own, "/f", 0, "x"), remove(own, "/g"), rename(own, "/f", "/h"), sync(own, "/"))
		b.wantEntries(own, dir("/d"), file("/h", "xevel "+string(rune('0'+own))))
	}
}

// That a level may not be reached is told ahead of what its volume says of a path.
func TestLevelsAheadOfPaths(t *testing.T) {
	b := pair(t)
	for _, path := range []string{"", "x", "/none", "/"} {
		for _, request := range ofAllKinds(1, path) {
			b.ask(0, request, told(api.ErrServerLevel))
		}
		for _, request := range ofAllKinds(2, path) {
			b.ask(1, request, told(api.ErrServerLevel))
		}
	}
}

func TestLevelsWithoutVolumes(t *testing.T) {
	v := volumeOn(t, newDisk(t))
	b := &bed{t: t, s: serverOf(t, chain(t, 3), []int{0, 1, 2}, []*volume.Volume{nil, v, nil}), levels: []int{0, 1, 2}}
	for part := range 3 {
		for level := range 4 {
			for _, request := range ofAllKinds(level, "/") {
				looks := slices.Contains([]byte{6, 7, 8}, request[0])
				if level == 1 && (part == 1 || part == 2 && looks) {
					continue
				}
				b.ask(part, request, told(api.ErrServerLevel))
			}
		}
	}
	b.ask(1, create(1, "/f"), ok(""))
	b.ask(2, list(1, "/", 0), ok("f\n"))
	b.ask(2, "", told(api.ErrServerText))
}

// One volume may stand at two levels: each kind goes by the level that is named.
func TestOneVolumeOfTwoLevels(t *testing.T) {
	v := volumeOn(t, newDisk(t))
	b := &bed{t: t, s: serverOf(t, chain(t, 2), []int{0, 1}, []*volume.Volume{v, v}), levels: []int{0, 1}}
	b.ask(0, mkdir(0, "/a"), ok(""))
	b.ask(1, mkdir(0, "/b"), told(api.ErrServerLevel))
	b.ask(1, mkdir(1, "/b"), ok(""))
	b.ask(0, list(0, "/", 0), ok("a\nb\n"))
	b.ask(0, list(1, "/", 0), told(api.ErrServerLevel))
}

// Sync, and the power.

func TestSyncMakesSafe(t *testing.T) {
	// The path is not looked at, be it one or none.
	for _, path := range []string{"", "/", "/none", "no path", noughts(252)} {
		b := one(t)
		b.asks(mkdir(0, "/safe"), sync(0, path), mkdir(0, "/lost"))
		want(t, "Crash", b.disks[0].Crash(nil), api.OK)
		b.disks[0].Revive()
		b.volumes[0] = volumeOn(t, b.disks[0])
		b.wantEntries(0, dir("/safe"))
	}
	b := one(t)
	b.asks(mkdir(0, "/lost"))
	want(t, "Crash", b.disks[0].Crash(nil), api.OK)
	b.disks[0].Revive()
	b.volumes[0] = volumeOn(t, b.disks[0])
	b.wantEntries(0)
}

// dies lets the power go in the next change of a level's disk.
func (b *bed) dies(level int) {
	b.t.Helper()
	want(b.t, "Arm", b.disks[level].Arm(1, nil), api.OK)
}

func TestThePowerGoesInARequest(t *testing.T) {
	for _, request := range []string{mkdir(0, "/d"), create(0, "/g"), write(0, "/f", 0, "xyz"), remove(0, "/f"), rename(0, "/f", "/h"), sync(0, "/")} {
		b := bedOf(t, chain(t, 2), 0, 0, 1, 0)
		b.asks(create(0, "/f"), write(0, "/f", 0, "abc"), sync(0, "/"))
		wantSubmit(t, b.s, 1, request, api.OK)
		wantSubmit(t, b.s, 0, list(0, "/", 0), api.OK)
		wantSubmit(t, b.s, 3, "", api.OK)
		b.dies(0)
		wantServe(t, b.s, 0, false, api.ErrDead)
		wantReply(t, b.s, 1, "", api.ErrServerNone)
		// It waits no more; the others do, and what they ask of the volume is told the same.
		wantWaiting(t, b.s, 2, 0)
		wantServe(t, b.s, 0, false, api.ErrDead)
		wantWaiting(t, b.s, 1, 0)
		wantReply(t, b.s, 0, "", api.ErrServerNone)
		wantServe(t, b.s, 0, true, api.OK)
		wantReply(t, b.s, 3, told(api.ErrServerText), api.OK)
		wantServe(t, b.s, 0, false, api.OK)
		// The partition is free again.
		wantSubmit(t, b.s, 1, request, api.OK)
		wantSubmit(t, b.s, 1, request, api.ErrServerBusy)
		wantServe(t, b.s, 0, false, api.ErrDead)
		b.ask(1, stat(1, "/"), told(api.ErrServerLevel))
		// Another level's volume is alive.
		b.ask(2, mkdir(1, "/d"), ok(""))
		b.wantEntries(1, dir("/d"))
	}
}

func TestEachKindOfADeadVolume(t *testing.T) {
	b := pair(t)
	b.asks(create(0, "/f"), sync(0, "/"))
	want(t, "Mkdir", b.volumes[1].Mkdir("/d"), api.OK)
	b.dies(0)
	want(t, "Mkdir", b.volumes[0].Mkdir("/no"), api.ErrDead)
	for _, path := range []string{"/f", "/", "no path", ""} {
		for _, request := range ofAllKinds(0, path) {
			wantSubmit(t, b.s, 0, request, api.OK)
			wantServe(t, b.s, 0, false, api.ErrDead)
			wantReply(t, b.s, 0, "", api.ErrServerNone)
			wantWaiting(t, b.s, 0, 0)
			// What no volume is asked for is told as ever.
			b.ask(0, request[:2], told(api.ErrServerText))
			b.ask(0, request[:1]+"\x01"+request[2:], told(api.ErrServerLevel))
			if slices.Contains([]byte{6, 7, 8}, request[0]) {
				wantSubmit(t, b.s, 1, request, api.OK)
				wantServe(t, b.s, 1, false, api.ErrDead)
				wantReply(t, b.s, 1, "", api.ErrServerNone)
			} else {
				b.ask(1, request, told(api.ErrServerLevel))
			}
		}
	}
	b.ask(1, list(1, "/", 0), ok("d\n"))
}

// A reply that is there stays there when the power goes in another partition's request.
func TestRepliesBehindTheEnd(t *testing.T) {
	b := bedOf(t, chain(t, 1), 0, 0)
	b.asks(create(0, "/f"), write(0, "/f", 0, "abc"))
	wantSubmit(t, b.s, 0, read(0, "/f", 0, 3), api.OK)
	wantSubmit(t, b.s, 1, mkdir(0, "/d"), api.OK)
	wantServe(t, b.s, 0, true, api.OK)
	b.dies(0)
	wantServe(t, b.s, 0, false, api.ErrDead)
	wantReply(t, b.s, 1, "", api.ErrServerNone)
	wantReply(t, b.s, 0, ok("abc"), api.OK)
}

// FuzzRequests looks for bytes at which a server does not end as it should.
func FuzzRequests(f *testing.F) {
	for _, request := range append(ofAllKinds(0, "/a"), ofAllKinds(1, "/")...) {
		f.Add(request)
	}
	f.Fuzz(func(t *testing.T, request string) {
		b := pair(t)
		b.asks(create(0, "/a"))
		e := b.s.Submit(1, request)
		if (e == api.OK) != (len(request) <= 255) {
			t.Fatal(e)
		}
		done, e := b.s.Serve(1)
		if e != api.OK || done != (len(request) <= 255) {
			t.Fatal(done, e)
		}
		if s, e := b.s.Reply(1); done && (s == "" || e != api.OK || len(s) > 1 && s[0] != 0) {
			t.Fatalf("%q, %d", s, e)
		}
		b.wantEntries(0, file("/a", ""))
	})
}
