package port_test

import (
	"math"
	"strings"
	"testing"
	"unsafe"

	"castellan/api"
	"castellan/port"
)

// most is the last tick.
const most = 1 << 40

// noTicks are none.
var noTicks = []int{-1, -2, -3, math.MinInt, math.MinInt + 1, most + 1, most + 2, 1 << 41, math.MaxInt - 1, math.MaxInt}

func sampling(size int) api.Port {
	return api.Port{Kind: api.Sampling, From: 0, To: 1, Size: size, Depth: 1}
}

func queuing(size, depth int) api.Port {
	return api.Port{Kind: api.Queuing, From: 0, To: 1, Size: size, Depth: depth}
}

// queues are queuing ports of all depths.
func queues(size int) []api.Port {
	var l []api.Port
	for depth := 1; depth <= 8; depth++ {
		l = append(l, queuing(size, depth))
	}
	return l
}

// both are ports of either kind.
func both(size int) []api.Port {
	return append(queues(size), sampling(size))
}

func portOf(t *testing.T, c api.Port) *port.Port {
	t.Helper()
	p, e := port.New(c)
	if p == nil || e != api.OK {
		t.Fatalf("New(%+v): %v, %d", c, p != nil, e)
	}
	return p
}

// wantMay holds whether a port may be.
func wantMay(t *testing.T, c api.Port, may bool) {
	t.Helper()
	e := api.OK
	if !may {
		e = api.ErrPortForm
	}
	if got := port.Check(c); got != e {
		t.Errorf("Check(%+v): %d, not %d", c, got, e)
	}
	if p, got := port.New(c); got != e || (p != nil) != may {
		t.Errorf("New(%+v): %v, %d, not %v, %d", c, p != nil, got, may, e)
	}
}

// wantSends lays down one message behind the other, all at one tick.
func wantSends(t *testing.T, p *port.Port, tick int, messages ...string) {
	t.Helper()
	for _, m := range messages {
		wantSend(t, p, m, tick, api.OK)
	}
}

func wantSend(t *testing.T, p *port.Port, message string, tick int, e api.Errno) {
	t.Helper()
	if got := p.Send(message, tick); got != e {
		t.Errorf("Send(%.20q, %d): %d, not %d", message, tick, got, e)
	}
}

func wantReceive(t *testing.T, p *port.Port, tick int, message string, n int, e api.Errno) {
	t.Helper()
	if m, k, got := p.Receive(tick); m != message || k != n || got != e {
		t.Errorf("Receive(%d): %.20q, %d, %d, not %.20q, %d, %d", tick, m, k, got, message, n, e)
	}
}

// wantTaken receives one message behind the other from a queuing port that has lost none, and then none.
func wantTaken(t *testing.T, p *port.Port, messages ...string) {
	t.Helper()
	for i, m := range messages {
		wantLen(t, p, len(messages)-i)
		wantReceive(t, p, 0, m, 0, api.OK)
	}
	wantNone(t, p)
}

func wantNone(t *testing.T, p *port.Port) {
	t.Helper()
	wantLen(t, p, 0)
	wantReceive(t, p, 0, "", 0, api.ErrPortEmpty)
	wantReceive(t, p, most, "", 0, api.ErrPortEmpty)
}

func wantLen(t *testing.T, p *port.Port, n int) {
	t.Helper()
	if got := p.Len(); got != n {
		t.Errorf("Len: %d, not %d", got, n)
	}
}

// The chapter's examples.

func TestExampleOfForms(t *testing.T) {
	wantMay(t, api.Port{Kind: api.Sampling, From: 0, To: 1, Size: 2, Depth: 2}, false)
	wantMay(t, api.Port{Kind: api.Queuing, From: 1, To: 1, Size: 2, Depth: 2}, false)
	wantMay(t, api.Port{Kind: api.Queuing, From: 0, To: 1, Size: 0, Depth: 2}, false)
}

func TestExampleOfAQueue(t *testing.T) {
	p := portOf(t, queuing(2, 2))
	wantSend(t, p, "a", 0, api.OK)
	wantSend(t, p, "bcd", 0, api.ErrPortLong)
	wantSends(t, p, 0, "b", "c", "d")
	wantReceive(t, p, 0, "a", 2, api.OK)
	wantReceive(t, p, 0, "b", 0, api.OK)
	wantReceive(t, p, 0, "", 0, api.ErrPortEmpty)
}

func TestExampleOfASample(t *testing.T) {
	p := portOf(t, sampling(2))
	wantReceive(t, p, 0, "", 0, api.ErrPortEmpty)
	wantSend(t, p, "a", 3, api.OK)
	wantReceive(t, p, 5, "a", 2, api.OK)
	wantReceive(t, p, 2, "a", 0, api.OK)
	wantSend(t, p, "b", 6, api.OK)
	wantReceive(t, p, 6, "b", 0, api.OK)
}

// P14.1

func TestFormAtItsEdges(t *testing.T) {
	for _, x := range []struct {
		may                         bool
		kind, from, to, size, depth int
	}{
		{true, 0, 0, 1, 1, 1}, {true, 1, 0, 1, 1, 1}, {true, 0, 7, 0, 255, 1}, {true, 1, 0, 7, 255, 8}, {true, 1, 6, 7, 128, 2},
		{false, 2, 0, 1, 1, 1}, {false, 3, 0, 1, 1, 1}, {false, -1, 0, 1, 1, 1}, {false, -2, 0, 1, 1, 1},
		{false, 0, 8, 1, 1, 1}, {false, 0, -1, 1, 1, 1}, {false, 1, 0, 8, 1, 1}, {false, 1, 0, -1, 1, 1},
		{false, 0, 0, 0, 1, 1}, {false, 1, 7, 7, 1, 1}, {false, 1, 8, 8, 1, 1},
		{false, 0, 0, 1, 0, 1}, {false, 1, 0, 1, -1, 1}, {false, 0, 0, 1, 256, 1}, {false, 1, 0, 1, 256, 8},
		{false, 0, 0, 1, 1, 0}, {false, 0, 0, 1, 1, -1}, {false, 0, 0, 1, 1, 2}, {false, 0, 0, 1, 1, 8},
		{false, 1, 0, 1, 1, 0}, {false, 1, 0, 1, 1, -1}, {false, 1, 0, 1, 1, 9},
		{false, 2, 0, 1, 1, 0}, {false, -1, 0, 1, 1, 0}, {false, 0, 0, 0, 0, 0},
	} {
		wantMay(t, api.Port{Kind: x.kind, From: x.from, To: x.to, Size: x.size, Depth: x.depth}, x.may)
	}
}

// All forms of numbers at the edges.
func TestAllForms(t *testing.T) {
	far := []int{math.MinInt, -1 << 32, 1 << 32, 1<<32 + 1, math.MaxInt}
	parts := []int{-2, -1, 0, 1, 2, 3, 4, 5, 6, 7, 8, 9}
	may := 0
	for _, kind := range append(far, -2, -1, 0, 1, 2, 3) {
		for _, from := range append(parts, far...) {
			for _, to := range append(parts, far...) {
				for _, size := range append(far, -255, -1, 0, 1, 2, 254, 255, 256, 511) {
					for _, depth := range append(far, -8, -1, 0, 1, 2, 3, 7, 8, 9, 16) {
						c := api.Port{Kind: kind, From: from, To: to, Size: size, Depth: depth}
						deep := kind == 0 && depth == 1 || kind == 1 && depth >= 1 && depth <= 8
						ends := from >= 0 && from <= 7 && to >= 0 && to <= 7 && from != to
						is := deep && ends && size >= 1 && size <= 255
						if is {
							may++
						}
						if e := port.Check(c); (e == api.OK) != is || e != api.OK && e != api.ErrPortForm {
							t.Errorf("Check(%+v): %d", c, e)
						}
					}
				}
			}
		}
	}
	// 8 * 7 ends, 4 sizes, 1 depth of a sampling one and 5 of a queuing one.
	if may != 8*7*4*6 {
		t.Errorf("%d forms may be", may)
	}
}

func TestNewHasNone(t *testing.T) {
	for _, c := range both(3) {
		wantNone(t, portOf(t, c))
		p := portOf(t, c)
		wantSends(t, p, 0, "a")
		wantReceive(t, p, 0, "a", 0, api.OK)
	}
}

// Two ports of one form have nothing of one another.
func TestPortsAreApart(t *testing.T) {
	for _, c := range both(3) {
		p, q := portOf(t, c), portOf(t, c)
		wantSends(t, p, 4, "a", "b")
		wantNone(t, q)
	}
}

// From and To are nobody's but the config's: a port does the same, wherever it goes.
func TestWhereItGoes(t *testing.T) {
	for from := range 8 {
		for to := range 8 {
			if from == to {
				continue
			}
			p := portOf(t, api.Port{Kind: api.Queuing, From: from, To: to, Size: 1, Depth: 2})
			wantSend(t, p, "ab", 0, api.ErrPortLong)
			wantSends(t, p, 0, "a", "b")
			wantTaken(t, p, "a", "b")
		}
	}
}

// P14.2

func TestSendOfAllSizes(t *testing.T) {
	for size := 1; size <= 255; size++ {
		for _, c := range []api.Port{sampling(size), queuing(size, 1), queuing(size, 8)} {
			p := portOf(t, c)
			for _, n := range []int{size + 1, size + 2, 2 * size, 256, 512, 65536 + 1} {
				if n > size {
					wantSend(t, p, strings.Repeat("x", n), 0, api.ErrPortLong)
				}
			}
			wantNone(t, p)
			full := strings.Repeat("y", size-1) + "z"
			wantSends(t, p, 0, full)
			wantReceive(t, p, 0, full, 0, api.OK)
		}
	}
}

// A message without bytes is one.
func TestSendOfNoBytes(t *testing.T) {
	for _, c := range queues(1) {
		p := portOf(t, c)
		wantSends(t, p, 0, "")
		wantTaken(t, p, "")
	}
	p := portOf(t, sampling(1))
	wantSends(t, p, 3, "a", "")
	wantLen(t, p, 1)
	wantReceive(t, p, 4, "", 1, api.OK)
	wantReceive(t, p, 4, "", 1, api.OK)
}

// Bytes count, not what they may be read as.
func TestSendOfAnyBytes(t *testing.T) {
	for _, c := range both(2) {
		p := portOf(t, c)
		wantSend(t, p, "\u20ac", 0, api.ErrPortLong)
		wantNone(t, p)
		for b := range 256 {
			m := string([]byte{byte(b), byte(255 - b)})
			wantSends(t, p, 0, m)
			wantReceive(t, p, 0, m, 0, api.OK)
			if c.Kind == api.Queuing {
				wantNone(t, p)
			}
		}
	}
}

func TestSendAtTicks(t *testing.T) {
	for _, c := range both(2) {
		p := portOf(t, c)
		for _, tick := range noTicks {
			wantSend(t, p, "", tick, api.ErrArg)
			wantSend(t, p, "ab", tick, api.ErrArg)
			// What is wrong with the tick is said ahead of what is wrong with the message.
			wantSend(t, p, "abc", tick, api.ErrArg)
		}
		wantNone(t, p)
		for _, tick := range []int{0, 1, most - 1, most} {
			wantSend(t, p, "abc", tick, api.ErrPortLong)
			wantSend(t, p, "ab", tick, api.OK)
			wantReceive(t, p, tick, "ab", 0, api.OK)
			wantSend(t, p, "abc", tick, api.ErrPortLong)
		}
	}
}

// What is refused neither takes another one's place, nor is it lost.
func TestRefusedSends(t *testing.T) {
	for _, c := range queues(2) {
		p := portOf(t, c)
		for range c.Depth {
			wantSends(t, p, 0, "a")
		}
		wantSends(t, p, 0, "b")
		for range 9 {
			wantSend(t, p, "abc", 0, api.ErrPortLong)
			wantSend(t, p, "a", -1, api.ErrArg)
			wantSend(t, p, "a", most+1, api.ErrArg)
		}
		wantLen(t, p, c.Depth)
		wantReceive(t, p, 0, "a", 1, api.OK)
	}
	p := portOf(t, sampling(2))
	wantSends(t, p, 5, "a")
	wantSend(t, p, "abc", 7, api.ErrPortLong)
	wantSend(t, p, "b", -1, api.ErrArg)
	wantSend(t, p, "b", most+1, api.ErrArg)
	wantReceive(t, p, 9, "a", 4, api.OK)
}

func TestSampleIsTheLast(t *testing.T) {
	p := portOf(t, sampling(3))
	for i, m := range []string{"a", "b", "", "abc", "b", "b"} {
		wantSend(t, p, m, 10*i, api.OK)
		wantLen(t, p, 1)
		wantReceive(t, p, 10*i+3, m, 3, api.OK)
	}
	wantSends(t, p, 100, "x", "y", "z")
	wantLen(t, p, 1)
	wantReceive(t, p, 101, "z", 1, api.OK)
	// The last one that was sent is the one, even if its tick is an earlier one.
	wantSend(t, p, "w", 40, api.OK)
	wantReceive(t, p, 101, "w", 61, api.OK)
}

func TestQueueIsFull(t *testing.T) {
	for _, c := range queues(1) {
		all := strings.Split("abcdefgh", "")[:c.Depth]
		p := portOf(t, c)
		wantSends(t, p, 0, all...)
		wantTaken(t, p, all...)
		wantSends(t, p, 0, all...)
		wantSends(t, p, 0, "X", "Y", "Z")
		wantLen(t, p, c.Depth)
		wantReceive(t, p, 0, all[0], 3, api.OK)
		wantTaken(t, p, all[1:]...)
	}
}

// P14.3

func TestReceiveAtTicks(t *testing.T) {
	for _, c := range both(2) {
		p := portOf(t, c)
		for _, tick := range noTicks {
			wantReceive(t, p, tick, "", 0, api.ErrArg)
		}
		wantSends(t, p, 0, "a")
		for _, tick := range noTicks {
			wantReceive(t, p, tick, "", 0, api.ErrArg)
			wantLen(t, p, 1)
		}
		wantReceive(t, p, 0, "a", 0, api.OK)
	}
}

// Receives that are refused leave what was lost as it was.
func TestLostStays(t *testing.T) {
	for _, c := range queues(1) {
		p := portOf(t, c)
		for range c.Depth + 5 {
			wantSends(t, p, 0, "a")
		}
		for _, tick := range noTicks {
			wantReceive(t, p, tick, "", 0, api.ErrArg)
		}
		wantReceive(t, p, 0, "a", 5, api.OK)
		for range c.Depth - 1 {
			wantReceive(t, p, 0, "a", 0, api.OK)
		}
		for range 3 {
			wantReceive(t, p, 0, "", 0, api.ErrPortEmpty)
		}
		for range c.Depth + 2 {
			wantSends(t, p, 0, "b")
		}
		wantReceive(t, p, 0, "b", 2, api.OK)
	}
}

func TestAgeOfASample(t *testing.T) {
	ticks := []int{0, 1, 2, 255, 256, 1 << 31, 1<<32 - 1, 1 << 32, most - 1, most}
	for _, sent := range ticks {
		p := portOf(t, sampling(1))
		wantSend(t, p, "a", sent, api.OK)
		for _, tick := range ticks {
			age := 0
			if tick > sent {
				age = tick - sent
			}
			wantReceive(t, p, tick, "a", age, api.OK)
			wantLen(t, p, 1)
		}
	}
}

// A sampling port loses nothing that it would tell.
func TestSampleStays(t *testing.T) {
	p := portOf(t, sampling(1))
	wantSends(t, p, 7, "a", "b", "c")
	for range 300 {
		wantReceive(t, p, 7, "c", 0, api.OK)
	}
}

// Of a queuing port no tick tells anything, neither that of a Send nor that of a Receive.
func TestQueueHasNoAge(t *testing.T) {
	for _, c := range queues(1) {
		for _, tick := range []int{0, 1, 5, 99, most} {
			p := portOf(t, c)
			wantSend(t, p, "a", 5, api.OK)
			wantReceive(t, p, tick, "a", 0, api.OK)
			wantNone(t, p)
		}
	}
	p := portOf(t, queuing(1, 2))
	wantSend(t, p, "a", 9, api.OK)
	wantSend(t, p, "b", 2, api.OK)
	wantReceive(t, p, 1, "a", 0, api.OK)
	wantReceive(t, p, 0, "b", 0, api.OK)
}

// What was lost is told once, by the first Receive behind it, whatever is sent in between.
func TestLostIsToldOnce(t *testing.T) {
	p := portOf(t, queuing(1, 3))
	wantSends(t, p, 0, "a", "b", "c", "X", "X")
	wantReceive(t, p, 0, "a", 2, api.OK)
	wantSends(t, p, 0, "d")
	wantReceive(t, p, 0, "b", 0, api.OK)
	wantSends(t, p, 0, "e", "X")
	wantReceive(t, p, 0, "c", 1, api.OK)
	wantSends(t, p, 0, "f", "X", "X", "X")
	wantReceive(t, p, 0, "d", 3, api.OK)
	wantTaken(t, p, "e", "f")
}

func TestManyAreLost(t *testing.T) {
	p := portOf(t, queuing(1, 1))
	wantSends(t, p, 0, "a")
	for range 70000 {
		wantSends(t, p, 0, "b")
	}
	wantLen(t, p, 1)
	wantReceive(t, p, 0, "a", 70000, api.OK)
	wantNone(t, p)
}

// P14.4

func TestLen(t *testing.T) {
	for _, c := range queues(1) {
		p := portOf(t, c)
		for n := range c.Depth + 3 {
			wantLen(t, p, min(n, c.Depth))
			wantSends(t, p, 0, "a")
		}
		for n := c.Depth; n > 0; n-- {
			wantLen(t, p, n)
			p.Receive(0)
		}
		wantNone(t, p)
	}
	p := portOf(t, sampling(1))
	wantLen(t, p, 0)
	for range 5 {
		wantSends(t, p, 0, "a")
		wantLen(t, p, 1)
		p.Receive(0)
		wantLen(t, p, 1)
	}
}

func TestClear(t *testing.T) {
	for _, c := range both(2) {
		p := portOf(t, c)
		p.Clear()
		wantNone(t, p)
		for n := range c.Depth + 3 {
			for range n {
				wantSends(t, p, 9, "a")
			}
			p.Clear()
			wantNone(t, p)
			// None is told as lost behind it, and there is as much room as ever.
			for range c.Depth {
				wantSends(t, p, 4, "b")
			}
			wantLen(t, p, c.Depth)
			wantReceive(t, p, 4, "b", 0, api.OK)
			wantSend(t, p, "abc", 4, api.ErrPortLong)
			p.Clear()
			p.Clear()
			wantNone(t, p)
		}
	}
}

func TestCloneOfAQueue(t *testing.T) {
	p := portOf(t, queuing(2, 3))
	wantSends(t, p, 0, "a", "b", "c", "X")
	q := p.Clone()
	wantReceive(t, p, 0, "a", 1, api.OK)
	wantSends(t, p, 0, "d", "X", "X")
	wantLen(t, q, 3)
	wantSends(t, q, 0, "X")
	wantReceive(t, q, 0, "a", 2, api.OK)
	wantSends(t, q, 0, "e")
	wantReceive(t, p, 0, "b", 2, api.OK)
	wantTaken(t, p, "c", "d")
	wantTaken(t, q, "b", "c", "e")
}

// Both put a message into the room behind those that they share.
func TestCloneHasRoomOfItsOwn(t *testing.T) {
	for _, c := range queues(1) {
		for n := range c.Depth {
			p := portOf(t, c)
			all := strings.Split("abcdefgh", "")[:n]
			wantSends(t, p, 0, all...)
			q := p.Clone()
			wantSends(t, p, 0, "p")
			wantSends(t, q, 0, "q")
			wantTaken(t, p, append(all[:n:n], "p")...)
			wantTaken(t, q, append(all[:n:n], "q")...)
		}
	}
}

func TestCloneOfASample(t *testing.T) {
	p := portOf(t, sampling(2))
	wantNone(t, p.Clone())
	wantSends(t, p, 3, "a")
	q := p.Clone()
	wantReceive(t, q, 5, "a", 2, api.OK)
	wantSends(t, p, 6, "b")
	wantReceive(t, q, 7, "a", 4, api.OK)
	wantReceive(t, p, 7, "b", 1, api.OK)
	wantSends(t, q, 1, "c")
	wantReceive(t, p, 7, "b", 1, api.OK)
	wantReceive(t, q, 7, "c", 6, api.OK)
	p.Clear()
	wantNone(t, p)
	wantReceive(t, q, 7, "c", 6, api.OK)
}

// A clone is of its original's form.
func TestCloneKeepsTheForm(t *testing.T) {
	for _, c := range both(2) {
		p := portOf(t, c).Clone().Clone()
		wantSend(t, p, "abc", 0, api.ErrPortLong)
		for range c.Depth + 1 {
			wantSends(t, p, 0, "ab")
		}
		wantLen(t, p, c.Depth)
	}
}

// A clone lives on when its original is cleared, and the other way.
func TestCloneAndClear(t *testing.T) {
	for _, c := range queues(1) {
		p := portOf(t, c)
		for range c.Depth + 2 {
			wantSends(t, p, 0, "a")
		}
		q := p.Clone()
		p.Clear()
		wantNone(t, p)
		r := q.Clone()
		r.Clear()
		wantNone(t, r)
		wantLen(t, q, c.Depth)
		wantReceive(t, q, 0, "a", 2, api.OK)
	}
}

// Rules 7 and 8 of the language: a message that is a piece of a long text keeps nothing of that text.
func TestMessagesAreNewMemory(t *testing.T) {
	long := strings.Repeat("keep", 1000)
	from := uintptr(unsafe.Pointer(unsafe.StringData(long)))
	for _, c := range both(8) {
		p := portOf(t, c)
		wantSends(t, p, 0, long[40:48])
		m, _, _ := p.Receive(0)
		if at := uintptr(unsafe.Pointer(unsafe.StringData(m))); m != long[40:48] || at >= from && at < from+uintptr(len(long)) {
			t.Errorf("%+v: %q lies in the text that was handed in", c, m)
		}
	}
}
