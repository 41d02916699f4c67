package forest

import "math/bits"

// places is a set of places among the terminals: a place is how many of them stand ahead of it. There are at most MaxWords+1, so one word has room for all.
type places uint64

func placeOf(at int) places {
	return 1 << at
}

func (p places) has(at int) bool {
	return p>>at&1 == 1
}

// first is the lowest place of a set that has any.
func (p places) first() int {
	return bits.TrailingZeros64(uint64(p))
}

// others are all places but the first.
func (p places) others() places {
	return p & (p - 1)
}
