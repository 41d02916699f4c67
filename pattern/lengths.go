package pattern

// lengths is a set of lengths, one bit each; it is only as long as it must be. join and meet write into what they are called on, as append does: that must be the caller's own.
type lengths []uint64

const wordBits = 64

func justOne(n int) lengths {
	return lengths{}.join(lengths{1}, n)
}

func (l lengths) has(n int) bool {
	return n/wordBits < len(l) && l[n/wordBits]>>(n%wordBits)&1 == 1
}

// end is above all of the lengths.
func (l lengths) end() int {
	return len(l) * wordBits
}

// join adds the lengths of another set, each greater by so many.
func (l lengths) join(other lengths, by int) lengths {
	words, shift := by/wordBits, by%wordBits
	for i, w := range other {
		l = l.mix(words+i, w<<shift)
		l = l.mix(words+i+1, w>>(wordBits-shift))
	}
	return l
}

func (l lengths) mix(i int, w uint64) lengths {
	if w == 0 {
		return l
	}
	for len(l) <= i {
		l = append(l, 0)
	}
	l[i] |= w
	return l
}

// meet leaves only the lengths that another set has too.
func (l lengths) meet(other lengths) lengths {
	l = l[:min(len(l), len(other))]
	for i := range l {
		l[i] &= other[i]
	}
	return l
}

// others gives the lengths up to most that are not in the set.
func (l lengths) others(most int) lengths {
	out := make(lengths, most/wordBits+1)
	copy(out, l)
	for i := range out {
		out[i] = ^out[i]
	}
	out[len(out)-1] &= uint64(1)<<(most%wordBits+1) - 1
	return out
}
