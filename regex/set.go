package regex

const (
	byteValues = 256
	setWord    = 64 // bytes of which one number of a set tells
)

// set of bytes, as an expression has it.
type set [byteValues / setWord]uint64

func (s set) has(b int) bool {
	return s[b/setWord]>>(b%setWord)&1 == 1
}

// with is s and the bytes from low to high.
func (s set) with(low, high int) set {
	for b := low; b <= high; b++ {
		s[b/setWord] |= 1 << (b % setWord)
	}
	return s
}

// others is the bytes that are not in s.
func (s set) others() set {
	for i := range s {
		s[i] = ^s[i]
	}
	return s
}

func allBytes() set {
	return set{}.others()
}
