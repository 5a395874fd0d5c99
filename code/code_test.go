package code_test

import (
	"encoding/binary"
	"hash/crc32"
	"math"
	"math/rand"
	"strings"
	"testing"

	"castellan/api"
	"castellan/code"
)

func anyBytes(rnd *rand.Rand, n int) string {
	b := make([]byte, n)
	rnd.Read(b)
	return string(b)
}

func wantEnd(t *testing.T, what string, r *code.Reader, e api.Errno, at int) {
	t.Helper()
	if ge, gat := r.Done(); ge != e || gat != at {
		t.Errorf("%s: Done is %d at %d, not %d at %d", what, ge, gat, e, at)
	}
}

func wantFault(t *testing.T, what string, r *code.Reader, e api.Errno, at int) {
	t.Helper()
	if ge, gat := r.Fault(); ge != e || gat != at {
		t.Errorf("%s: Fault is %d at %d, not %d at %d", what, ge, gat, e, at)
	}
}

// P1.1

func TestSum32(t *testing.T) {
	for s, want := range map[string]uint32{"": 0, "123456789": 0xCBF43926, "a": 0xE8B7BE43, "\x00": 0xD202EF8D, "\xff\xff\xff\xff": 0xFFFFFFFF} {
		if n := code.Sum32(s); n != want {
			t.Errorf("%q: %08X, not %08X", s, n, want)
		}
	}
}

func TestSum32OfAnyBytes(t *testing.T) {
	rnd := rand.New(rand.NewSource(11))
	for b := range 256 {
		s := string([]byte{byte(b)})
		if n := code.Sum32(s); n != crc32.ChecksumIEEE([]byte(s)) {
			t.Errorf("%q: %08X", s, n)
		}
	}
	for n := range 300 {
		s := anyBytes(rnd, n)
		if n := code.Sum32(s); n != crc32.ChecksumIEEE([]byte(s)) {
			t.Errorf("%q: %08X", s, n)
		}
	}
}

func TestPut(t *testing.T) {
	for _, x := range []struct {
		n, w int
		want string
	}{
		{258, 2, "\x01\x02"},
		{-1, 3, "\xff\xff\xff"},
		{0, 1, "\x00"},
		{255, 1, "\xff"},
		{256, 1, "\x00"},
		{256, 2, "\x01\x00"},
		{-2, 8, "\xff\xff\xff\xff\xff\xff\xff\xfe"},
		{5, 8, "\x00\x00\x00\x00\x00\x00\x00\x05"},
		{math.MinInt, 8, "\x80\x00\x00\x00\x00\x00\x00\x00"},
		{math.MinInt, 7, "\x00\x00\x00\x00\x00\x00\x00"},
		{math.MaxInt, 8, "\x7f\xff\xff\xff\xff\xff\xff\xff"},
	} {
		if s := code.Put(x.n, x.w); s != x.want {
			t.Errorf("Put(%d, %d): %x, not %x", x.n, x.w, s, x.want)
		}
	}
}

func TestPutIsTheLowestBytes(t *testing.T) {
	rnd := rand.New(rand.NewSource(12))
	for range 500 {
		n := int(rnd.Uint64())
		whole := string(binary.BigEndian.AppendUint64(nil, uint64(n)))
		for w := 1; w <= 8; w++ {
			if s := code.Put(n, w); s != whole[8-w:] {
				t.Errorf("Put(%d, %d): %x, not %x", n, w, s, whole[8-w:])
			}
		}
	}
}

func TestPutOfNoWidth(t *testing.T) {
	for _, w := range []int{0, -1, 9, 10, 64, math.MinInt, math.MaxInt} {
		if s := code.Put(5, w); s != "" {
			t.Errorf("Put(5, %d): %x", w, s)
		}
	}
}

func TestPutText(t *testing.T) {
	for _, x := range []struct{ s, want string }{
		{"", "\x00\x00"},
		{"ab", "\x00\x02ab"},
		{"\x00\xff", "\x00\x02\x00\xff"},
		{strings.Repeat("x", 255), "\x00\xff" + strings.Repeat("x", 255)},
		{strings.Repeat("x", 256), "\x01\x00" + strings.Repeat("x", 256)},
		{strings.Repeat("x", api.MaxString), "\x04\x00" + strings.Repeat("x", api.MaxString)},
	} {
		if s, e := code.PutText(x.s); s != x.want || e != api.OK {
			t.Errorf("PutText of %d bytes: %x, %d", len(x.s), s, e)
		}
	}
	for _, n := range []int{api.MaxString + 1, 1 << 16, 1<<16 + 2} {
		if s, e := code.PutText(strings.Repeat("x", n)); s != "" || e != api.ErrCodeLong {
			t.Errorf("PutText of %d bytes: %d bytes, %d", n, len(s), e)
		}
	}
}

// P1.2

func TestNewStandsAtTheBeginning(t *testing.T) {
	for _, s := range []string{"", "a", "abc"} {
		r := code.New(s)
		if r.At() != 0 || r.Left() != len(s) {
			t.Errorf("%q: At %d, Left %d", s, r.At(), r.Left())
		}
		wantFault(t, "a new reader", r, api.OK, 0)
	}
}

func TestNum(t *testing.T) {
	const s = "\xff\xfe\xfd\xfc\xfb\xfa\xf9\xf8\xf7"
	wants := []int{0, 0xff, 0xfffe, 0xfffefd, 0xfffefdfc, 0xfffefdfcfb, 0xfffefdfcfbfa, 0xfffefdfcfbfaf9, -0x01020304050608}
	for w := 1; w <= 8; w++ {
		r := code.New(s)
		if n := r.Num(w); n != wants[w] || r.At() != w || r.Left() != 9-w {
			t.Errorf("Num(%d): %d, At %d, Left %d", w, n, r.At(), r.Left())
		}
		wantFault(t, "a number", r, api.OK, 0)
	}
}

func TestNumBelowNought(t *testing.T) {
	for s, want := range map[string]int{
		"\xff\xff\xff\xff\xff\xff\xff\xfe": -2,
		"\x80\x00\x00\x00\x00\x00\x00\x00": math.MinInt,
		"\x7f\xff\xff\xff\xff\xff\xff\xff": math.MaxInt,
	} {
		if n := code.New(s).Num(8); n != want {
			t.Errorf("%x: %d, not %d", s, n, want)
		}
	}
}

func TestNumOfNoWidth(t *testing.T) {
	for _, w := range []int{0, -1, 9, math.MinInt, math.MaxInt} {
		for _, s := range []string{"", "a", "abcdefghijkl"} {
			r := code.New(s)
			if n := r.Num(w); n != 0 {
				t.Errorf("Num(%d) of %q: %d", w, s, n)
			}
			wantFault(t, "a number of no width", r, api.ErrCodeWide, 0)
		}
	}
}

func TestNumWhereTheBytesEnd(t *testing.T) {
	for w := 1; w <= 8; w++ {
		for n := range w {
			r := code.New("ab" + strings.Repeat("\xff", n))
			r.Bytes(2)
			if n := r.Num(w); n != 0 {
				t.Errorf("Num(%d): %d", w, n)
			}
			wantFault(t, "a number whose bytes end", r, api.ErrCodeEnd, 2)
		}
	}
}

func TestText(t *testing.T) {
	long := strings.Repeat("y", 1<<16-1)
	for _, x := range []struct {
		s    string
		most int
		want string
		e    api.Errno
		at   int
	}{
		{"\x00\x00", 0, "", api.OK, 0},
		{"\x00\x01a", 1, "a", api.OK, 0},
		{"\x00\x02\x00\xff", 2, "\x00\xff", api.OK, 0},
		{"\x00\x01ab", 9, "a", api.ErrCodeMore, 3},
		{"\x01\x00" + long[:256], math.MaxInt, long[:256], api.OK, 0},
		{"\xff\xff" + long, 1<<16 - 1, long, api.OK, 0},
		{"\xff\xff" + long, 1<<16 - 2, "", api.ErrCodeLong, 0},
		{"\x00\x02a", 1, "", api.ErrCodeLong, 0},
		{"\x00\x02ab", 1, "", api.ErrCodeLong, 0},
		{"\x00\x01a", 0, "", api.ErrCodeLong, 0},
		{"\x00\x02a", 2, "", api.ErrCodeEnd, 0},
		{"\x00\x01", 1, "", api.ErrCodeEnd, 0},
		{"", 0, "", api.ErrCodeEnd, 0},
		{"\x00", 0, "", api.ErrCodeEnd, 0},
		{"\xff", 0, "", api.ErrCodeEnd, 0},
		{"", -1, "", api.ErrCodeWide, 0},
		{"\x00", -1, "", api.ErrCodeWide, 0},
		{"\x00\x01a", -1, "", api.ErrCodeWide, 0},
		{"\x00\x00", math.MinInt, "", api.ErrCodeWide, 0},
	} {
		r := code.New(x.s)
		if s := r.Text(x.most); s != x.want {
			t.Errorf("Text(%d) of %d bytes: %q", x.most, len(x.s), s)
		}
		wantEnd(t, "a text", r, x.e, x.at)
	}
}

func TestTextFaultStandsAheadOfIt(t *testing.T) {
	r := code.New("\x07\x00\x05ab")
	if n := r.Num(1); n != 7 {
		t.Errorf("Num(1): %d", n)
	}
	if s := r.Text(9); s != "" || r.At() != 1 || r.Left() != 4 {
		t.Errorf("%q, At %d, Left %d", s, r.At(), r.Left())
	}
	wantFault(t, "a text whose bytes end", r, api.ErrCodeEnd, 1)
}

func TestBytes(t *testing.T) {
	r := code.New("abcde")
	for _, x := range []struct {
		n    int
		want string
		at   int
	}{{0, "", 0}, {2, "ab", 2}, {1, "c", 3}, {0, "", 3}, {2, "de", 5}, {0, "", 5}} {
		if s := r.Bytes(x.n); s != x.want || r.At() != x.at || r.Left() != 5-x.at {
			t.Errorf("Bytes(%d): %q, At %d, Left %d", x.n, s, r.At(), r.Left())
		}
	}
	wantEnd(t, "all bytes", r, api.OK, 0)
}

func TestBytesThatCannotBe(t *testing.T) {
	for _, x := range []struct {
		s  string
		n  int
		e  api.Errno
		at int
	}{
		{"abc", 3, api.ErrCodeEnd, 1},
		{"abc", math.MaxInt, api.ErrCodeEnd, 1},
		{"a", 1, api.ErrCodeEnd, 1},
		{"abc", -1, api.ErrCodeWide, 1},
		{"abc", math.MinInt, api.ErrCodeWide, 1},
		{"a", -1, api.ErrCodeWide, 1},
	} {
		r := code.New(x.s)
		r.Num(1)
		if s := r.Bytes(x.n); s != "" {
			t.Errorf("Bytes(%d) of %q: %q", x.n, x.s, s)
		}
		wantFault(t, "bytes that can't be", r, x.e, x.at)
	}
}

func TestWithAFaultNothingIsRead(t *testing.T) {
	for _, x := range []struct {
		what string
		make func(r *code.Reader)
		e    api.Errno
	}{
		{"wide", func(r *code.Reader) { r.Num(0) }, api.ErrCodeWide},
		{"end", func(r *code.Reader) { r.Bytes(99) }, api.ErrCodeEnd},
		{"long", func(r *code.Reader) { r.Text(1) }, api.ErrCodeLong},
	} {
		r := code.New("z\x00\x02ab")
		r.Num(1)
		x.make(r)
		for range 3 {
			// Each of these could be read, or would be another fault, if there were none yet.
			if r.Num(1) != 0 || r.Num(2) != 0 || r.Num(9) != 0 || r.Bytes(2) != "" || r.Bytes(-1) != "" || r.Bytes(9) != "" || r.Text(9) != "" || r.Text(0) != "" || r.Text(-1) != "" {
				t.Errorf("%s: something is read", x.what)
			}
			if r.At() != 1 || r.Left() != 4 {
				t.Errorf("%s: At %d, Left %d", x.what, r.At(), r.Left())
			}
			wantFault(t, x.what, r, x.e, 1)
			wantEnd(t, x.what, r, x.e, 1)
		}
	}
}

// slowRead is chapter 1's P1.2 once more, word by word: what is read at a place, the place behind it, and the fault.
func slowRead(s string, at int, call byte, n int) (num int, text string, next int, e api.Errno) {
	switch rest := s[at:]; {
	case call == 'N' && (n < 1 || n > 8), call != 'N' && n < 0:
		return 0, "", at, api.ErrCodeWide
	case call == 'T' && len(rest) < 2:
		return 0, "", at, api.ErrCodeEnd
	case call == 'T':
		size := 256*int(rest[0]) + int(rest[1])
		if size > n {
			return 0, "", at, api.ErrCodeLong
		}
		if size > len(rest)-2 {
			return 0, "", at, api.ErrCodeEnd
		}
		return 0, rest[2 : 2+size], at + 2 + size, api.OK
	case n > len(rest):
		return 0, "", at, api.ErrCodeEnd
	case call == 'B':
		return 0, rest[:n], at + n, api.OK
	default:
		var b [8]byte
		copy(b[8-n:], rest)
		return int(binary.BigEndian.Uint64(b[:])), "", at + n, api.OK
	}
}

func TestReaderOverAnyBytes(t *testing.T) {
	rnd := rand.New(rand.NewSource(13))
	for range 5000 {
		b := make([]byte, rnd.Intn(24))
		for i := range b {
			b[i] = byte(rnd.Intn(4))
		}
		s := string(b)
		r, at, fault := code.New(s), 0, api.OK
		for range 8 {
			call, n := "NTB"[rnd.Intn(3)], rnd.Intn(13)-1
			var num, gotNum int
			var text, gotText string
			if fault == api.OK {
				num, text, at, fault = slowRead(s, at, call, n)
			}
			switch call {
			case 'N':
				gotNum = r.Num(n)
			case 'T':
				gotText = r.Text(n)
			default:
				gotText = r.Bytes(n)
			}
			if gotNum != num || gotText != text || r.At() != at || r.Left() != len(s)-at {
				t.Fatalf("%x: %c %d: %d %q At %d, not %d %q At %d", s, call, n, gotNum, gotText, r.At(), num, text, at)
			}
			if fault == api.OK {
				wantFault(t, s, r, api.OK, 0)
			} else {
				wantFault(t, s, r, fault, at)
			}
		}
	}
}

// P1.3

func TestDone(t *testing.T) {
	r := code.New("abc")
	wantEnd(t, "at the beginning", r, api.ErrCodeMore, 0)
	r.Num(2)
	wantEnd(t, "in the middle", r, api.ErrCodeMore, 2)
	wantFault(t, "bytes that are left", r, api.OK, 0)
	if n := r.Num(1); n != 'c' {
		t.Errorf("behind Done: %d", n)
	}
	wantEnd(t, "at the end", r, api.OK, 0)
	wantEnd(t, "of nothing", code.New(""), api.OK, 0)
}

func TestDoneOfAFaultWithoutBytesLeft(t *testing.T) {
	r := code.New("a")
	r.Num(1)
	r.Num(1)
	wantEnd(t, "at the end", r, api.ErrCodeEnd, 1)
	wantFault(t, "at the end", r, api.ErrCodeEnd, 1)
}

func TestCloneGoesItsOwnWay(t *testing.T) {
	r := code.New("abcdef")
	r.Num(1)
	c := r.Clone()
	if s := r.Bytes(2); s != "bc" || c.At() != 1 || c.Left() != 5 {
		t.Errorf("%q, the clone At %d, Left %d", s, c.At(), c.Left())
	}
	if s := c.Bytes(4); s != "bcde" || r.At() != 3 || r.Left() != 3 {
		t.Errorf("%q, the original At %d, Left %d", s, r.At(), r.Left())
	}
	c.Num(0)
	wantFault(t, "the original", r, api.OK, 0)
	wantFault(t, "the clone", c, api.ErrCodeWide, 5)
	if s := r.Bytes(3); s != "def" {
		t.Errorf("the original: %q", s)
	}
}

func TestCloneHasTheFault(t *testing.T) {
	r := code.New("ab")
	r.Num(1)
	r.Num(2)
	c := r.Clone()
	wantFault(t, "the clone", c, api.ErrCodeEnd, 1)
	if n := c.Num(1); n != 0 || c.At() != 1 || c.Left() != 1 {
		t.Errorf("%d, At %d, Left %d", n, c.At(), c.Left())
	}
	wantEnd(t, "the clone", c, api.ErrCodeEnd, 1)
}

// P1.4

func TestWhatIsLaidIsRead(t *testing.T) {
	rnd := rand.New(rand.NewSource(14))
	for range 300 {
		laid := ""
		var reads []func(r *code.Reader) bool
		for range rnd.Intn(9) {
			if w := rnd.Intn(9); w > 0 {
				n := int(rnd.Uint64())
				if w < 8 {
					n &= 1<<(8*w) - 1
				}
				laid += code.Put(n, w)
				reads = append(reads, func(r *code.Reader) bool { return r.Num(w) == n })
				continue
			}
			text := anyBytes(rnd, rnd.Intn(api.MaxString+1))
			form, e := code.PutText(text)
			if e != api.OK {
				t.Fatal(e)
			}
			laid += form
			reads = append(reads, func(r *code.Reader) bool { return r.Text(api.MaxString) == text })
		}
		r := code.New(laid)
		for i, as := range reads {
			if !as(r) {
				t.Errorf("%x: the %d. is another one", laid, i)
			}
		}
		wantEnd(t, "what is laid", r, api.OK, 0)
	}
}

func TestWhatIsReadLaidAgain(t *testing.T) {
	rnd := rand.New(rand.NewSource(15))
	for range 1000 {
		b := make([]byte, rnd.Intn(40))
		for i := range b {
			b[i] = byte(rnd.Intn(3))
		}
		s, again := string(b), ""
		r := code.New(s)
		for {
			at, form := r.At(), ""
			switch rnd.Intn(3) {
			case 0:
				w := 1 + rnd.Intn(8)
				form = code.Put(r.Num(w), w)
			case 1:
				form, _ = code.PutText(r.Text(api.MaxString))
			default:
				form = r.Bytes(1 + rnd.Intn(4))
			}
			if e, _ := r.Fault(); e != api.OK {
				break
			}
			if again += form; form != s[at:r.At()] {
				t.Errorf("%x: %x at %d", s, form, at)
			}
		}
		if again != s[:r.At()] {
			t.Errorf("%x: %x", s, again)
		}
	}
}

func TestTheSumChangesWithEachBit(t *testing.T) {
	rnd := rand.New(rand.NewSource(16))
	for _, n := range []int{1, 2, 3, 4, 5, 16, 124, 128, 257} {
		s := anyBytes(rnd, n)
		sum := code.Sum32(s)
		for bit := range 8 * n {
			b := []byte(s)
			b[bit/8] ^= 1 << (bit % 8)
			if code.Sum32(string(b)) == sum {
				t.Errorf("%x: the bit %d changes nothing", s, bit)
			}
		}
	}
}

// The chapter's examples that are not told above.

func TestExamples(t *testing.T) {
	if s := code.Put(5, 9); s != "" {
		t.Errorf("%x", s)
	}
	r := code.New("\x01\x02\x03")
	if n := r.Num(2); n != 258 {
		t.Errorf("%d", n)
	}
	if n := r.Num(2); n != 0 || r.At() != 2 {
		t.Errorf("%d, At %d", n, r.At())
	}
	wantFault(t, "a fault", r, api.ErrCodeEnd, 2)
	if n := r.Num(1); n != 0 {
		t.Errorf("%d", n)
	}
	wantEnd(t, "a fault", r, api.ErrCodeEnd, 2)
}
