package match

import "castellan/api"

const (
	end     = 0  // the place of the state behind the whole expression
	endless = -1 // times, as Max
	setWord = 64 // bytes of which one number of a set tells
)

// state leads on by a byte of its set; one without a set leads on by nothing read, as an empty step.
type state struct {
	set  [4]uint64
	next places
}

func (s *state) reads(b byte) bool {
	return s.set[b/setWord]>>(b%setWord)&1 == 1
}

// isEmpty tells whether its step is an empty one. (No expression's own set is empty, as Check holds.)
func (s *state) isEmpty() bool {
	return s.set == [4]uint64{}
}

func (m *Machine) add(s state) int {
	m.states = append(m.states, s)
	return len(m.states) - 1
}

// lay puts the states of e ahead of the one at next, no more than e's size, and is the place where they begin.
func (m *Machine) lay(e api.Regex, next int) int {
	switch e.Kind {
	case api.RegexSet:
		return m.add(state{set: e.Set, next: places{}.with(next)})
	case api.RegexAlt:
		return m.layAny(e.List, next)
	case api.RegexRep:
		if e.Max == endless {
			return m.layEndless(e.List[0], e.Min, next)
		}
		return m.layTimes(e.List[0], e.Min, e.Max, next)
	}
	for i := range e.List {
		next = m.lay(e.List[len(e.List)-1-i], next)
	}
	return next
}

func (m *Machine) layAny(l []api.Regex, next int) int {
	var begins places
	for _, e := range l {
		begins = begins.with(m.lay(e, next))
	}
	return m.add(state{next: begins})
}

// layTimes lays e most times in one row, which is entered where least to most of them are left: so one empty step is enough.
func (m *Machine) layTimes(e api.Regex, least, most, next int) int {
	var begins places
	for left := range most + 1 {
		if left > 0 {
			next = m.lay(e, next)
		}
		if left >= least {
			begins = begins.with(next)
		}
	}
	return m.add(state{next: begins})
}

// layEndless lays e least times, once at least; from behind the last one an empty step leads back to its beginning.
func (m *Machine) layEndless(e api.Regex, least, next int) int {
	back := m.add(state{})
	begin := m.lay(e, back)
	m.states[back].next = places{}.with(next).with(begin)
	if least == 0 {
		return back
	}
	for range least - 1 {
		begin = m.lay(e, begin)
	}
	return begin
}

// follow has all empty steps followed ahead of the first text, so that a step over a byte needs no more of them.
func (m *Machine) follow() {
	for i := range m.states {
		m.states[i].next = m.followed(m.states[i].next)
	}
	m.begin = m.followed(m.begin)
}

// followed is all places of s, and those to which empty steps lead from there.
func (m *Machine) followed(s places) places {
steps:
	for {
		for i := range m.states {
			if !s.has(i) || !m.states[i].isEmpty() {
				continue
			}
			// What is new may stand ahead of this place, as steps lead back too: all places are gone through again.
			if more := s.or(m.states[i].next); more != s {
				s = more
				continue steps
			}
		}
		return s
	}
}
