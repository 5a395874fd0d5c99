package match

import "castellan/api"

const (
	maxPlaces = api.MaxStates + 1 // the end's beside those of an expression's states
	wordBits  = 64
)

// places is a set of states, as bits by their places in the list.
type places [(maxPlaces + wordBits - 1) / wordBits]uint64

func (p places) has(i int) bool {
	return p[i/wordBits]>>(i%wordBits)&1 == 1
}

func (p places) with(i int) places {
	p[i/wordBits] |= 1 << (i % wordBits)
	return p
}

func (p places) or(q places) places {
	for i := range p {
		p[i] |= q[i]
	}
	return p
}
