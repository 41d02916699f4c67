package forest

import (
	"math/bits"
	"slices"
	"strconv"
	"strings"
)

// Numbers are written in words of 18 digits: so they are soon told, however many digits they have.
const (
	wordDigits = 18
	unit       = 1_000_000_000_000_000_000
)

// shortWords is up to how many words a number is multiplied word by word. (For 128 bits to have room for the sum of as many products, it must be at most 300.)
const shortWords = 40

// whole is a number of 0 or more, as large as it becomes: its words, the least first, the last one not 0. Methods that add write into what they are called on, as append does.
type whole []uint64

func (w whole) isNone() bool {
	return len(w) == 0
}

// plusTimes adds the product of two numbers.
func (w whole) plusTimes(a, b whole) whole {
	if min(len(a), len(b)) <= shortWords {
		return w.plusByWords(a, b)
	}
	return w.plus(product(a, b), 0)
}

// plusByWords adds the product of two numbers of which one is short: for each word of the sum all products of words that belong there.
func (w whole) plusByWords(a, b whole) whole {
	w = w.widened(max(len(w), len(a)+len(b)) + 1)
	var high, low, carry uint64
	for i := range w {
		low, carry = bits.Add64(low, w[i], 0)
		high += carry
		for k := max(0, i-len(b)+1); k <= min(i, len(a)-1); k++ {
			h, l := bits.Mul64(a[k], b[i-k])
			low, carry = bits.Add64(low, l, 0)
			high += h + carry
		}
		rest := high % unit
		high /= unit
		low, w[i] = bits.Div64(rest, low, unit)
	}
	return w.trimmed()
}

// product parts long numbers in halves: of both, three products of halves are enough instead of four.
func product(a, b whole) whole {
	if len(a) > len(b) {
		a, b = b, a
	}
	if len(a) <= shortWords {
		return whole{}.plusByWords(a, b)
	}
	half := (len(b) + 1) / 2
	lowB, highB := b.parted(half)
	if len(a) <= half {
		return product(a, lowB).plus(product(a, highB), half)
	}
	lowA, highA := a.parted(half)
	low, high := product(lowA, lowB), product(highA, highB)
	crossed := product(sum(lowA, highA), sum(lowB, highB)).less(low).less(high)
	return low.plus(crossed, half).plus(high, 2*half)
}

func sum(a, b whole) whole {
	return slices.Clone(a).plus(b, 0)
}

// plus adds another number, with so many words of 0 put to its end.
func (w whole) plus(other whole, shift int) whole {
	w = w.widened(max(len(w), len(other)+shift) + 1)
	var carry uint64
	for i := shift; i < len(other)+shift || carry > 0; i++ {
		w[i] += carry
		if i < len(other)+shift {
			w[i] += other[i-shift]
		}
		carry = w[i] / unit
		w[i] %= unit
	}
	return w.trimmed()
}

// less takes away another number, which must not be greater.
func (w whole) less(other whole) whole {
	var borrowed uint64
	for i := range w {
		away := borrowed
		if i < len(other) {
			away += other[i]
		}
		borrowed = 0
		if w[i] < away {
			w[i] += unit
			borrowed = 1
		}
		w[i] -= away
	}
	return w.trimmed()
}

func (w whole) parted(at int) (low, high whole) {
	return w[:at].trimmed(), w[at:]
}

func (w whole) widened(words int) whole {
	return append(w, make(whole, words-len(w))...)
}

func (w whole) trimmed() whole {
	for len(w) > 0 && w[len(w)-1] == 0 {
		w = w[:len(w)-1]
	}
	return w
}

func (w whole) text() string {
	if w.isNone() {
		return none
	}
	var out strings.Builder
	for i := len(w) - 1; i >= 0; i-- {
		digits := strconv.FormatUint(w[i], 10)
		if i < len(w)-1 {
			out.WriteString(strings.Repeat("0", wordDigits-len(digits)))
		}
		out.WriteString(digits)
	}
	return out.String()
}
