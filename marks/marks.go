// Package marks: sets of the numbers of a grammar's symbols.
package marks

import (
	"math/bits"

	"grammarsmith/api"
)

// wordBits is how many numbers one word has room for.
const wordBits = 64

// Set is a set of numbers from 0 to MaxSyms: names, or terminals and the end. It is a value: two of them are held against each other by ==. Other numbers are never in it.
type Set [api.MaxSyms/wordBits + 1]uint64

// Of: the set of one number.
func Of(i int) Set {
	return Set{}.With(i)
}

// Has: whether a number is in the set.
func (s Set) Has(i int) bool {
	return fits(i) && s[i/wordBits]>>(i%wordBits)&1 == 1
}

// With: the set with one number more.
func (s Set) With(i int) Set {
	if fits(i) {
		s[i/wordBits] |= 1 << (i % wordBits)
	}
	return s
}

func fits(i int) bool {
	return i >= 0 && i <= api.MaxSyms
}

// Join: what is in one of both.
func (s Set) Join(other Set) Set {
	for i, word := range other {
		s[i] |= word
	}
	return s
}

// Meet: what is in both.
func (s Set) Meet(other Set) Set {
	for i, word := range other {
		s[i] &= word
	}
	return s
}

// List: the numbers in ascending order.
func (s Set) List() []int {
	var out []int
	for i, word := range s {
		for ; word != 0; word &= word - 1 {
			out = append(out, i*wordBits+bits.TrailingZeros64(word))
		}
	}
	return out
}
