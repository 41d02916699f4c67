package grammar

import (
	"math/bits"

	"grammarsmith/api"
)

// wordBits is how many numbers one word of marks has room for.
const wordBits = 64

// marks are a set of numbers from 0 to MaxSyms: names, or terminals and the end.
type marks [api.MaxSyms/wordBits + 1]uint64

func (m marks) has(i int) bool {
	return m[i/wordBits]>>(i%wordBits)&1 == 1
}

func (m marks) with(i int) marks {
	m[i/wordBits] |= 1 << (i % wordBits)
	return m
}

func (m marks) join(other marks) marks {
	for i, word := range other {
		m[i] |= word
	}
	return m
}

// list gives the numbers in ascending order.
func (m marks) list() []int {
	var out []int
	for i, word := range m {
		for ; word != 0; word &= word - 1 {
			out = append(out, i*wordBits+bits.TrailingZeros64(word))
		}
	}
	return out
}

func listsOf(all []marks) [][]int {
	out := make([][]int, len(all))
	for i, m := range all {
		out[i] = m.list()
	}
	return out
}
