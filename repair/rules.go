package repair

import (
	"grammarsmith/api"
	"grammarsmith/grammar"
)

// rest is what stands from some symbol of a production on: the symbol, and the number of the rest behind it.
type rest struct {
	symbol, next int
}

// Numbers of rests: of that without symbols, and of the first with some.
const (
	nothing   = 0
	firstRest = 1
)

// rules are the productions of a grammar that stand in trees of Start: so each of their names has sentences.
type rules struct {
	names, start int
	prods        []api.Prod
	rests        []rest  // each but once; next is always less than a rest's own number
	own          [][]int // by names: the rests that it may become
	stands       [][]int // by names: the numbers of the productions in which it stands, each as often as it does
}

func rulesOf(g api.Grammar) *rules {
	r := &rules{names: g.Names, start: g.Start, rests: make([]rest, firstRest), own: make([][]int, g.Names), stands: make([][]int, g.Names)}
	used, numbers := grammar.Used(g), map[rest]int{}
	for i, p := range g.Prods {
		if used[i] {
			r.add(p, numbers)
		}
	}
	return r
}

// add puts a production to the others; numbers are those of the rests so far.
func (r *rules) add(p api.Prod, numbers map[rest]int) {
	all := nothing
	for i := len(p.Right) - 1; i >= 0; i-- {
		x := rest{p.Right[i], all}
		number, is := numbers[x]
		if !is {
			number = len(r.rests)
			numbers[x] = number
			r.rests = append(r.rests, x)
		}
		all = number
		if n, named := nameOf(x.symbol); named {
			r.stands[n] = append(r.stands[n], len(r.prods))
		}
	}
	r.own[p.Left] = append(r.own[p.Left], all)
	r.prods = append(r.prods, p)
}

// hasSentence: whether Start has one.
func (r *rules) hasSentence() bool {
	return len(r.own[r.start]) > 0
}

// nameOf gives the name that a symbol is, and whether it is one.
func nameOf(symbol int) (int, bool) {
	return -1 - symbol, symbol < 0
}
