package auto

import (
	"slices"

	"grammarsmith/api"
)

// The knots of a net that are always there: its end, and the gate where it begins.
const (
	endKnot = iota
	firstGate
)

// net is several automata with gates between them. A text leads to a set of its knots at once.
type net struct {
	knots  []knot
	turned bool     // it takes what does not lead to the end
	all    [][]int  // of each knot: the knots to which a text leads that leads to it; only the end and knots with moves
	covers [][]bool // of each knot: which others cover it; nil, if that was not found out
}

// knot is a state of an automaton; or a gate or the end, which have no moves.
type knot struct {
	moves []api.Move
	also  []int // the knots to which each text leads, too, that leads to this one
}

func newNet() *net {
	return &net{knots: []knot{endKnot: {}, firstGate: {}}}
}

func (n *net) gate() int {
	n.knots = append(n.knots, knot{})
	return len(n.knots) - 1
}

func (n *net) lead(from, to int) {
	n.knots[from].also = append(n.knots[from].also, to)
}

// put puts a piece between two knots.
func (n *net) put(p *piece, from, to int) {
	switch {
	case p.whole:
		n.putAuto(p.auto, from, to)
	case p.re.Kind == api.RCat:
		for _, k := range p.kids {
			next := n.gate()
			n.put(k, from, next)
			from = next
		}
		n.lead(from, to)
	case p.re.Kind == api.ROr:
		for _, k := range p.kids {
			n.put(k, from, to)
		}
	default:
		n.putTimes(p, from, to)
	}
}

// putTimes puts as many of a piece's kid between two knots as there may be; where there are enough, a way leads to the end. It has a gate of its own to begin with: others may begin where it does, and the way back must not lead to them.
func (n *net) putTimes(p *piece, from, to int) {
	at, ahead := n.gate(), 0
	n.lead(from, at)
	for i := range max(p.re.Min, p.re.Max, 1) {
		if i >= p.re.Min {
			n.lead(at, to)
		}
		ahead, at = at, n.gate()
		n.put(p.kids[0], ahead, at)
	}
	if p.re.Max < 0 {
		n.lead(at, ahead)
	}
	n.lead(at, to)
}

func (n *net) putAuto(a api.Auto, from, to int) {
	first := len(n.knots)
	if len(a.States) > 0 {
		n.lead(from, first)
	}
	for i, s := range a.States {
		var k knot
		for _, m := range s.Moves {
			k.moves = append(k.moves, api.Move{Lo: m.Lo, Hi: m.Hi, To: first + m.To})
		}
		n.knots = append(n.knots, k)
		if s.Rule >= 0 {
			n.lead(first+i, to)
		}
	}
}

// together takes what the kids of a piece are, put together.
func together(p *piece) *net {
	n := newNet()
	n.put(p, firstGate, endKnot)
	return n.ready()
}

// either takes a text of one of the automata.
func either(l []api.Auto) *net {
	n := newNet()
	for _, a := range l {
		n.putAuto(a, firstGate, endKnot)
	}
	return n.ready()
}

// ready finds all. It must be called when nothing more is put into the net.
func (n *net) ready() *net {
	n.all = make([][]int, len(n.knots))
	met := make([]int, len(n.knots))
	for i := range n.knots {
		found := []int{i}
		met[i] = i + 1
		for k := 0; k < len(found); k++ {
			for _, to := range n.knots[found[k]].also {
				if met[to] != i+1 {
					met[to] = i + 1
					found = append(found, to)
				}
			}
		}
		n.all[i] = ascending(slices.DeleteFunc(found, func(k int) bool { return !n.counts(k) }))
	}
	return n
}

// counts says whether a knot tells anything: gates do not.
func (n *net) counts(k int) bool {
	return k == endKnot || len(n.knots[k].moves) > 0
}

// first is the set of knots to which the empty text leads.
func (n *net) first() []int {
	return n.pruned(n.all[firstGate])
}

// testOf gives a set of knots as a test: which of all knots are in it. The test of a text is the knots from which it leads to the end.
func (n *net) testOf(set []int) []bool {
	test := make([]bool, len(n.knots))
	for _, k := range set {
		test[k] = true
	}
	return test
}

// emptyTest is the test of the empty text.
func (n *net) emptyTest() []bool {
	return n.testOf([]int{endKnot})
}

// says gives the rule by which the text of a test is taken from a set of knots on: 0, or -1 if it is not taken.
func (n *net) says(set []int, test []bool) int {
	leads := slices.ContainsFunc(set, func(k int) bool { return test[k] })
	if leads != n.turned {
		return 0
	}
	return -1
}

// onward gives, for the stretches of points by which a set of knots leads on, the sets to which it leads. It answers how many moves it looked at.
func (n *net) onward(set []int, take func(lo, hi int, set []int)) int {
	var l []api.Move
	for _, k := range set {
		l = append(l, n.knots[k].moves...)
	}
	sweep(l, func(lo, hi int, to []int) {
		var all []int
		for _, k := range to {
			all = append(all, n.all[k]...)
		}
		take(lo, hi, n.pruned(ascending(all)))
	})
	return len(l)
}

// backward gives, for the stretches of points that may stand ahead of the text of a test, the sets of the tests of these longer texts. It answers how many moves it looked at.
func (n *net) backward(test []bool, take func(lo, hi int, set []int)) int {
	hit := make([]bool, len(n.knots))
	for k, all := range n.all {
		hit[k] = slices.ContainsFunc(all, func(to int) bool { return test[to] })
	}
	looked := 0
	var l []api.Move
	for k := range n.knots {
		for _, m := range n.knots[k].moves {
			looked++
			if hit[m.To] {
				l = append(l, api.Move{Lo: m.Lo, Hi: m.Hi, To: k})
			}
		}
	}
	sweep(l, take)
	return looked
}
