package hash_test

import (
	"crypto/hmac"
	"crypto/sha256"
	"encoding/binary"
	"encoding/hex"
	"math/rand"
	"slices"
	"strings"
	"testing"

	"castellan/hash"
)

func anyBytes(rnd *rand.Rand, n int) string {
	b := make([]byte, n)
	rnd.Read(b)
	return string(b)
}

func sumOf(s string) string {
	b := sha256.Sum256([]byte(s))
	return string(b[:])
}

func macOf(key, s string) string {
	m := hmac.New(sha256.New, []byte(key))
	m.Write([]byte(s))
	return string(m.Sum(nil))
}

func linkOf(link, record string) string {
	return sumOf(link + string(binary.BigEndian.AppendUint64(nil, uint64(len(record)))) + record)
}

func wantHex(t *testing.T, what, got, want string) {
	t.Helper()
	if g := hex.EncodeToString([]byte(got)); g != want {
		t.Errorf("%s: %s, not %s", what, g, want)
	}
}

func wantState(t *testing.T, what string, h *hash.Hash, written string) {
	t.Helper()
	if h.Sum() != sumOf(written) {
		t.Errorf("%s: not the sum of %d bytes", what, len(written))
	}
	if n := h.Size(); n != len(written) {
		t.Errorf("%s: Size is %d, not %d", what, n, len(written))
	}
}

func panics(f func()) (did bool) {
	defer func() { did = recover() != nil }()
	f()
	return false
}

// P2.1

func TestSumOfKnownBytes(t *testing.T) {
	for s, want := range map[string]string{
		"":    "e3b0c44298fc1c149afbf4c8996fb92427ae41e4649b934ca495991b7852b855",
		"abc": "ba7816bf8f01cfea414140de5dae2223b00361a396177a9cb410ff61f20015ad",
		"abcdbcdecdefdefgefghfghighijhijkijkljklmklmnlmnomnopnopq": "248d6a61d20638b8e5c026930c3e6039a33ce45964ff2167f6ecedd419db06c1",
		strings.Repeat("a", 1000000):                               "cdc76e5c9914fb9281a1c7e284d73e67f1809a48a497200e046d39ccc7112cd0",
	} {
		wantHex(t, "Sum", hash.Sum(s), want)
	}
}

func TestSumOfEachLength(t *testing.T) {
	rnd := rand.New(rand.NewSource(21))
	for n := range 400 {
		for _, s := range []string{anyBytes(rnd, n), strings.Repeat("\x00", n), strings.Repeat("\xff", n), strings.Repeat("\x80", n)} {
			if hash.Sum(s) != sumOf(s) {
				t.Errorf("Sum of %d bytes (%.8q..) is wrong", n, s)
			}
		}
	}
}

// A length in bits must have more than two and more than four of its bytes right.
func TestSumOfLongBytes(t *testing.T) {
	for _, n := range []int{8191, 8192, 65535, 65536, 1<<21 + 55, 1<<21 + 56} {
		s := strings.Repeat("castellan", n/9+1)[:n]
		if hash.Sum(s) != sumOf(s) {
			t.Errorf("Sum of %d bytes is wrong", n)
		}
	}
}

func TestLengthOfMoreThanFourBytes(t *testing.T) {
	if testing.Short() {
		t.Skip("half a gigabyte")
	}
	piece := strings.Repeat("0123456789abcde", 1<<16)
	h, want := hash.New(), sha256.New()
	size := 0
	for size < 1<<29 {
		h.Write(piece)
		want.Write([]byte(piece))
		size += len(piece)
	}
	if h.Size() != size || h.Sum() != string(want.Sum(nil)) {
		t.Errorf("the sum of %d bytes is wrong", size)
	}
}

func TestMacOfKnownBytes(t *testing.T) {
	for _, x := range []struct{ key, s, want string }{
		{"Jefe", "what do ya want for nothing?", "5bdcc146bf60754e6a042426089575c75a003f089d2739839dec58b964ec3843"},
		{strings.Repeat("\x0b", 20), "Hi There", "b0344c61d8db38535ca8afceaf0bf12b881dc200c9833da726e9376c2e32cff7"},
		{strings.Repeat("\xaa", 131), "Test Using Larger Than Block-Size Key - Hash Key First", "60e431591ee0b67f0d8a26aacbf5b77f8e0bc6213728c5140546040f0ee37f54"},
		{"", "", "b613679a0814d9ec772f95d778c35fc5ff1697c493715653c6c712144292c5ad"},
	} {
		wantHex(t, "Mac", hash.Mac(x.key, x.s), x.want)
	}
}

func TestMacOfEachLength(t *testing.T) {
	rnd := rand.New(rand.NewSource(22))
	for _, k := range []int{0, 1, 4, 31, 32, 33, 55, 56, 62, 63, 64, 65, 66, 100, 127, 128, 129, 300} {
		key := anyBytes(rnd, k)
		for _, n := range []int{0, 1, 32, 54, 55, 56, 63, 64, 65, 119, 120, 128, 129, 500} {
			s := anyBytes(rnd, n)
			if hash.Mac(key, s) != macOf(key, s) {
				t.Errorf("Mac of a key of %d bytes and %d bytes is wrong", k, n)
			}
		}
	}
}

func TestLink(t *testing.T) {
	rnd := rand.New(rand.NewSource(23))
	for _, k := range []int{0, 1, 31, 32, 33, 64, 100} {
		link := anyBytes(rnd, k)
		for _, n := range []int{0, 1, 15, 16, 24, 55, 56, 63, 64, 128, 255, 256, 65536} {
			record := anyBytes(rnd, n)
			if hash.Link(link, record) != linkOf(link, record) {
				t.Errorf("Link of %d bytes and %d bytes is wrong", k, n)
			}
		}
	}
}

// The record's length stands between, so bytes that go over from one to the other make another link.
func TestLinkTellsWhereItsRecordBegins(t *testing.T) {
	if hash.Link("ab", "c") == hash.Link("a", "bc") || hash.Link("abc", "") == hash.Link("", "abc") {
		t.Error("two links are the same")
	}
}

func TestChainOfNoRecords(t *testing.T) {
	for _, link := range []string{"", "x", hash.Sum("x"), strings.Repeat("y", 100)} {
		for _, l := range [][]string{nil, {}} {
			if s := hash.Chain(link, l); s != link {
				t.Errorf("Chain(%q, none): %q", link, s)
			}
		}
	}
}

func TestChain(t *testing.T) {
	if hash.Chain("x", []string{"a", ""}) != linkOf(linkOf("x", "a"), "") {
		t.Error("Chain(x, (a, empty)) is wrong")
	}
	rnd := rand.New(rand.NewSource(24))
	for n := range 12 {
		link := anyBytes(rnd, rnd.Intn(40))
		want := link
		var l []string
		for range n {
			l = append(l, anyBytes(rnd, rnd.Intn(3)*rnd.Intn(60)))
			want = linkOf(want, l[len(l)-1])
		}
		if hash.Chain(link, l) != want {
			t.Errorf("Chain of %d records is wrong", n)
		}
	}
}

func TestChainOfEmptyRecords(t *testing.T) {
	want := ""
	for n := 1; n < 5; n++ {
		want = linkOf(want, "")
		if s := hash.Chain("", make([]string, n)); s != want {
			t.Errorf("%d empty records: %x, not %x", n, s, want)
		}
	}
}

func TestChainTellsTheOrder(t *testing.T) {
	if hash.Chain("x", []string{"a", "b"}) == hash.Chain("x", []string{"b", "a"}) {
		t.Error("the order of the records makes no difference")
	}
}

// R4
func TestChainLeavesItsList(t *testing.T) {
	l := []string{"a", "bc", "", "behind", "it"}
	hash.Chain("x", l[:3])
	if !slices.Equal(l, []string{"a", "bc", "", "behind", "it"}) {
		t.Errorf("the list is %q now", l)
	}
}

// P2.2

func TestNew(t *testing.T) {
	h := hash.New()
	wantState(t, "New", h, "")
	h.Write("")
	wantState(t, "New, nothing written", h, "")
	if hash.New() == hash.New() {
		t.Error("New answers one hash twice")
	}
}

func TestWriteAndSum(t *testing.T) {
	h := hash.New()
	h.Write("a")
	h.Write("bc")
	for range 3 {
		wantState(t, "abc", h, "abc")
	}
}

func TestSumChangesNothing(t *testing.T) {
	rnd := rand.New(rand.NewSource(25))
	h, written := hash.New(), ""
	for len(written) < 600 {
		wantState(t, "told on the way", h, written)
		wantState(t, "told again", h, written)
		s := anyBytes(rnd, rnd.Intn(20))
		h.Write(s)
		written += s
	}
}

func TestWritesOfNothing(t *testing.T) {
	for _, n := range []int{0, 1, 55, 56, 63, 64, 65, 128} {
		h, s := hash.New(), strings.Repeat("q", n)
		h.Write("")
		h.Write(s)
		for range 3 {
			h.Write("")
			wantState(t, "nothing written behind", h, s)
		}
		h.Write("r")
		wantState(t, "and something behind that", h, s+"r")
	}
}

func TestCloneGoesItsOwnWay(t *testing.T) {
	rnd := rand.New(rand.NewSource(26))
	for _, n := range []int{0, 1, 55, 56, 63, 64, 65, 100, 127, 128, 200} {
		s := anyBytes(rnd, n)
		h := hash.New()
		h.Write(s)
		c := h.Clone()
		wantState(t, "a clone", c, s)
		c.Write("another way")
		wantState(t, "the original of one that was written to", h, s)
		h.Write("its own way, which is longer than what a block has left of room, in each case of these")
		wantState(t, "a clone that was written to", c, s+"another way")
		d := c.Clone()
		c.Write("!")
		wantState(t, "a clone's clone", d, s+"another way")
		wantState(t, "its original", c, s+"another way!")
	}
}

func TestHashesAreApart(t *testing.T) {
	g, h := hash.New(), hash.New()
	g.Write("one")
	h.Write("the other")
	g.Write(" more")
	wantState(t, "one", g, "one more")
	wantState(t, "the other", h, "the other")
}

// P2.3

func TestAnyCutHasOneSum(t *testing.T) {
	rnd := rand.New(rand.NewSource(27))
	s := anyBytes(rnd, 200)
	for i := range len(s) + 1 {
		for _, j := range []int{i, (i + len(s)) / 2, len(s)} {
			h := hash.New()
			h.Write(s[:i])
			h.Write(s[i:j])
			h.Write(s[j:])
			wantState(t, "three pieces", h, s)
		}
	}
}

func TestPiecesOfOneLength(t *testing.T) {
	rnd := rand.New(rand.NewSource(28))
	for _, n := range []int{1, 2, 3, 7, 55, 56, 63, 64, 65, 127, 128, 129, 300} {
		h, s := hash.New(), anyBytes(rnd, 10*n+1)
		for i := 0; i < len(s); i += n {
			h.Write(s[i:min(i+n, len(s))])
		}
		wantState(t, "pieces", h, s)
	}
}

func TestMacIsTwoSums(t *testing.T) {
	rnd := rand.New(rand.NewSource(29))
	for _, k := range []int{0, 1, 63, 64} {
		key, s := anyBytes(rnd, k), anyBytes(rnd, 90)
		inner, outer := "", ""
		for _, b := range []byte(key + strings.Repeat("\x00", 64-k)) {
			inner += string([]byte{b ^ 54})
			outer += string([]byte{b ^ 92})
		}
		if hash.Mac(key, s) != hash.Sum(outer+hash.Sum(inner+s)) {
			t.Errorf("a key of %d bytes: not two sums", k)
		}
	}
}

func TestKeysThatAreAsGood(t *testing.T) {
	rnd := rand.New(rand.NewSource(30))
	for _, k := range []int{65, 66, 128, 1000} {
		key := anyBytes(rnd, k)
		if hash.Mac(key, "s") != hash.Mac(hash.Sum(key), "s") {
			t.Errorf("a key of %d bytes isn't as good as its sum", k)
		}
	}
	for _, k := range []int{0, 1, 32, 63} {
		key := anyBytes(rnd, k)
		if hash.Mac(key, "s") != hash.Mac(key+strings.Repeat("\x00", 64-k), "s") {
			t.Errorf("a key of %d bytes isn't as good as with bytes 0", k)
		}
	}
	if key := anyBytes(rnd, 64); hash.Mac(key, "s") == hash.Mac(hash.Sum(key), "s") || hash.Mac(key, "s") == hash.Mac(key+"\x00", "s") {
		t.Error("a key of 64 bytes is not taken as it is")
	}
}

func TestChainGoesOn(t *testing.T) {
	l := []string{"a", "", strings.Repeat("b", 64), "c", "", ""}
	whole := hash.Chain("first", l)
	for i := range len(l) + 1 {
		if hash.Chain(hash.Chain("first", l[:i]), l[i:]) != whole {
			t.Errorf("cut at %d: another link", i)
		}
	}
}

// R1
func TestNothingPanics(t *testing.T) {
	long := strings.Repeat("\xff\x00", 1<<16)
	if panics(func() {
		for _, s := range []string{"", "\x00", "\xff", long} {
			hash.Sum(s)
			hash.Mac(s, long)
			hash.Mac(long, s)
			hash.Link(s, long)
			hash.Link(long, s)
			hash.Chain(s, []string{long, "", s})
		}
	}) {
		t.Error("a call panics")
	}
}
