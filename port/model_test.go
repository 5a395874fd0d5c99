package port_test

import (
	"math/rand"
	"slices"
	"strconv"
	"testing"

	"castellan/api"
	"castellan/port"
)

// What became of a message that went in.
const (
	isThere = iota
	isOut
	isLost
	isTold // as a lost one
	isGone // by Clear, or behind a later sample
)

// sent is a message that Send took.
type sent struct {
	text string
	tick int
	fate int
}

// model is chapter 14's words once more: all that ever went in, and what became of each.
type model struct {
	form api.Port
	all  []sent
}

func (m *model) clone() *model {
	return &model{m.form, slices.Clone(m.all)}
}

func (m *model) count(fate int) int {
	n := 0
	for _, s := range m.all {
		if s.fate == fate {
			n++
		}
	}
	return n
}

func (m *model) turn(from, to int) {
	for i := range m.all {
		if m.all[i].fate == from {
			m.all[i].fate = to
		}
	}
}

func (m *model) send(text string, tick int) api.Errno {
	switch {
	case tick < 0 || tick > most:
		return api.ErrArg
	case len(text) > m.form.Size:
		return api.ErrPortLong
	}
	fate := isThere
	if m.form.Kind == api.Sampling {
		m.turn(isThere, isGone)
	} else if m.count(isThere) >= m.form.Depth {
		fate = isLost
	}
	m.all = append(m.all, sent{text, tick, fate})
	return api.OK
}

func (m *model) receive(tick int) (string, int, api.Errno) {
	if tick < 0 || tick > most {
		return "", 0, api.ErrArg
	}
	at := slices.IndexFunc(m.all, func(s sent) bool { return s.fate == isThere })
	if at < 0 {
		return "", 0, api.ErrPortEmpty
	}
	s := m.all[at]
	if m.form.Kind == api.Sampling {
		if tick < s.tick {
			return s.text, 0, api.OK
		}
		return s.text, tick - s.tick, api.OK
	}
	n := m.count(isLost)
	m.turn(isLost, isTold)
	m.all[at].fate = isOut
	return s.text, n, api.OK
}

func (m *model) clear() {
	m.turn(isThere, isGone)
	m.turn(isLost, isGone)
}

// pair is a port and its model, which are asked the same.
type pair struct {
	port  *port.Port
	model *model
}

func pairOf(t *testing.T, c api.Port) pair {
	t.Helper()
	return pair{portOf(t, c), &model{form: c}}
}

func (p pair) clone() pair {
	return pair{p.port.Clone(), p.model.clone()}
}

func (p pair) send(t *testing.T, text string, tick int) {
	t.Helper()
	wantSend(t, p.port, text, tick, p.model.send(text, tick))
	wantLen(t, p.port, p.model.count(isThere))
}

func (p pair) receive(t *testing.T, tick int) {
	t.Helper()
	text, n, e := p.model.receive(tick)
	wantReceive(t, p.port, tick, text, n, e)
	wantLen(t, p.port, p.model.count(isThere))
}

func (p pair) clear(t *testing.T) {
	t.Helper()
	p.port.Clear()
	p.model.clear()
	wantLen(t, p.port, 0)
}

// drain holds what is left, without a change of the pair itself.
func (p pair) drain(t *testing.T) {
	t.Helper()
	p = p.clone()
	for range p.model.form.Depth + 1 {
		p.receive(t, 8)
	}
}

// anyForm is one that may be.
func anyForm(rnd *rand.Rand) api.Port {
	from := rnd.Intn(8)
	c := api.Port{Kind: rnd.Intn(2), From: from, To: (from + 1 + rnd.Intn(7)) % 8, Size: 1 + rnd.Intn(5), Depth: 1}
	if c.Kind == api.Queuing {
		c.Depth = 1 + rnd.Intn(8)
	}
	return c
}

// anyMessage is mostly short enough.
func anyMessage(rnd *rand.Rand, size int) string {
	b := make([]byte, rnd.Intn(size+2))
	for i := range b {
		b[i] = byte(rnd.Intn(256))
	}
	return string(b)
}

// anyTick is mostly one, and goes on now and then.
func anyTick(rnd *rand.Rand, now *int) int {
	switch rnd.Intn(12) {
	case 0:
		return noTicks[rnd.Intn(len(noTicks))]
	case 1:
		return rnd.Intn(most + 1)
	case 2:
		return most - rnd.Intn(3)
	}
	*now += rnd.Intn(3)
	return *now
}

// All rows of up to six calls, on sampling ports and on shallow queues.
func TestShortRowsAsModel(t *testing.T) {
	for _, c := range []api.Port{sampling(1), queuing(1, 1), queuing(1, 2), queuing(1, 3)} {
		var walk func(p pair, at int)
		walk = func(p pair, at int) {
			p.drain(t)
			if at == 6 {
				return
			}
			for call := range 5 {
				q := p.clone()
				switch call {
				case 0:
					q.send(t, strconv.Itoa(at), 2*at)
				case 1:
					q.send(t, "xx", at)
				case 2:
					q.receive(t, 7)
				case 3:
					q.receive(t, -1)
				default:
					q.clear(t)
				}
				walk(q, at+1)
			}
		}
		walk(pairOf(t, c), 0)
	}
}

// Long runs by chance, with clones that go their own way.
func TestLongRunsAsModel(t *testing.T) {
	rnd := rand.New(rand.NewSource(61))
	for range 400 {
		c, now := anyForm(rnd), rnd.Intn(100)
		p := pairOf(t, c)
		sends := 1 + rnd.Intn(9)
		for range 200 {
			switch n := rnd.Intn(12); {
			case n < sends:
				p.send(t, anyMessage(rnd, c.Size), anyTick(rnd, &now))
			case n < 10:
				p.receive(t, anyTick(rnd, &now))
			case n == 10 && rnd.Intn(4) == 0:
				p.clear(t)
			case n == 11:
				q := p.clone()
				if rnd.Intn(2) == 0 {
					p, q = q, p
				}
				// What is given up has no more to do with what is gone on with.
				q.send(t, anyMessage(rnd, c.Size), anyTick(rnd, &now))
				q.receive(t, anyTick(rnd, &now))
				q.send(t, "z", 0)
				if rnd.Intn(2) == 0 {
					q.clear(t)
				}
			}
		}
		p.drain(t)
	}
}

// P14.5

// A sender is answered the same, whatever is received, cleared or cloned.
func TestSenderLearnsNothing(t *testing.T) {
	rnd := rand.New(rand.NewSource(62))
	for range 300 {
		c, now := anyForm(rnd), 0
		quiet, loud := portOf(t, c), portOf(t, c)
		for range 100 {
			message, tick := anyMessage(rnd, c.Size), anyTick(rnd, &now)
			e := quiet.Send(message, tick)
			wantSend(t, loud, message, tick, e)
			wantSend(t, portOf(t, c), message, tick, e)
			for range rnd.Intn(4) {
				loud.Receive(anyTick(rnd, &now))
			}
			switch rnd.Intn(8) {
			case 0:
				loud.Clear()
			case 1:
				loud = loud.Clone()
			}
		}
	}
}

// Messages that all are unlike come out in their order, each once; with those that are lost they are all that went in.
func TestQueueKeepsOrderAndCount(t *testing.T) {
	rnd := rand.New(rand.NewSource(63))
	for _, c := range queues(8) {
		for range 60 {
			p, in, out, lost, last := portOf(t, c), 0, 0, 0, -1
			take := func() bool {
				m, n, e := p.Receive(rnd.Intn(most + 1))
				if e != api.OK {
					return false
				}
				number, _ := strconv.Atoi(m)
				if number <= last || number >= in {
					t.Errorf("%q came out behind %d, of %d", m, last, in)
				}
				last = number
				out++
				lost += n
				return true
			}
			sends := 1 + rnd.Intn(5)
			for range 200 {
				if rnd.Intn(6) < sends {
					wantSend(t, p, strconv.Itoa(in), rnd.Intn(most+1), api.OK)
					in++
				} else {
					take()
				}
				if out+p.Len()+lost > in {
					t.Errorf("%d came out, %d are there, %d were lost, of %d", out, p.Len(), lost, in)
				}
			}
			for take() {
			}
			if out+lost != in || p.Len() != 0 {
				t.Errorf("%d came out, %d were lost, of %d", out, lost, in)
			}
		}
	}
}

// What a queue has room for comes out with nothing lost between: a lost one is one that came while Depth were there.
func TestQueueLosesNoneWithRoom(t *testing.T) {
	rnd := rand.New(rand.NewSource(64))
	for _, c := range queues(8) {
		p, in, next := portOf(t, c), 0, 0
		for range 2000 {
			if p.Len() < c.Depth && rnd.Intn(2) == 0 {
				wantSend(t, p, strconv.Itoa(in), 0, api.OK)
				in++
			} else if p.Len() > 0 {
				wantReceive(t, p, 0, strconv.Itoa(next), 0, api.OK)
				next++
			}
			wantLen(t, p, in-next)
		}
	}
}
