package grammar

import (
	"cmp"

	"grammarsmith/api"
)

const (
	noTree    = -1
	maxLength = 1_000_000 // what is longer is told as this
	maxTold   = 1_000     // what is longer is not told
)

func lengths(g api.Grammar) []int {
	own := ownProds(g)
	return least(noTree, within(g), func(short []int, n int) int {
		best := noTree
		for _, p := range own[n] {
			length := rowLength(p.Right, short)
			if length != noTree && (best == noTree || length < best) {
				best = length
			}
		}
		return best
	})
}

// rowLength adds up the lengths of a row's symbols.
func rowLength(row []int, short []int) int {
	sum := 0
	for _, s := range row {
		n, named := nameOf(s)
		switch {
		case !named:
			sum++
		case short[n] == noTree:
			return noTree
		default:
			sum += short[n]
		}
	}
	return min(sum, maxLength)
}

// What is known of a sentence: the greater, the better.
const (
	noSentence = iota
	tooLong
	told
)

// termBytes is how many bytes a terminal takes in a sentence's text.
const termBytes = 2

// sentence is the best that is known of a name. Its terminals are a text, the high byte of each first: so two of one length stand in the order of their texts.
type sentence struct {
	known int
	terms string
}

// compare says which of two goes ahead as the first of the shortest ones.
func (s sentence) compare(other sentence) int {
	return cmp.Or(cmp.Compare(other.known, s.known), cmp.Compare(len(s.terms), len(other.terms)), cmp.Compare(s.terms, other.terms))
}

// list gives the terminals, if they are told.
func (s sentence) list() ([]int, bool) {
	var out []int
	for i := 0; i < len(s.terms); i += termBytes {
		out = append(out, int(s.terms[i])<<8|int(s.terms[i+1]))
	}
	return out, s.known == told
}

// sentences finds the first of the shortest sentences of each name. In one of the shortest of a production all parts are shortest, so of one length each, and the first of them make the first one.
func sentences(g api.Grammar) []sentence {
	own := ownProds(g)
	return least(sentence{}, within(g), func(best []sentence, n int) sentence {
		var first sentence
		for _, p := range own[n] {
			if s := rowSentence(p.Right, best); s.compare(first) < 0 {
				first = s
			}
		}
		return first
	})
}

// rowSentence puts the sentences of a row's symbols together. Where one is not told, the others still say whether the row has any.
func rowSentence(row []int, best []sentence) sentence {
	known := told
	var terms []byte
	for _, s := range row {
		if n, named := nameOf(s); named {
			known = min(known, best[n].known)
			terms = append(terms, best[n].terms...)
		} else {
			terms = append(terms, byte(s>>8), byte(s))
		}
		if len(terms) > maxTold*termBytes {
			known = min(known, tooLong)
		}
		if known != told {
			terms = nil
		}
	}
	return sentence{known: known, terms: string(terms)}
}
