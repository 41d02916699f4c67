package auto

import (
	"slices"

	"grammarsmith/api"
)

// byTrial guesses, and hunts for a text of which the guess is wrong: the tests of that text's ends tell more states apart. A guess of which none is wrong is right.
func byTrial(n *net, room int) answer {
	t := newTrial(n)
	for t.close() {
		guess := t.guess()
		text, sure := wrongText(n, guess, room)
		if !sure {
			return unsure()
		}
		if text == nil {
			return found(guess)
		}
		t.addEnds(text)
	}
	return tooLarge()
}

// addEnds adds the tests of all ends of a text.
func (t *trial) addEnds(text []int) {
	test := t.tests[0]
	for i := len(text) - 1; i >= 0; i-- {
		var ahead []int
		t.net.backward(test, func(lo, hi int, set []int) {
			if lo <= text[i] && text[i] <= hi {
				ahead = set
			}
		})
		test = t.net.testOf(ahead)
		t.add(test)
	}
	t.renew()
}

// wrongText gives a text that an automaton takes and a net does not, or the other way round; nil, if there is none. It looks first at each way through the net alone: soon that finds what leads to the end, and is not taken so. What does not lead to it is only seen where all ways are gone at once.
func wrongText(n *net, a api.Auto, room int) ([]int, bool) {
	empty := n.emptyTest()
	h := newHunt(n, a, room)
	h.meet = h.eachKnot(map[pair]int{})
	h.wrong = func(state int, set []int) bool { return set[0] == endKnot && n.says(set, empty) != ruleOf(a, state) }
	text, sure := h.run(n.first())
	if text != nil || !sure || !n.turned && !takesSome(a) {
		return text, sure
	}
	h = newHunt(n, a, h.room)
	h.meet = h.leastSets(make([][][]int, len(a.States)+1))
	h.wrong = func(state int, set []int) bool { return n.says(set, empty) != ruleOf(a, state) }
	return h.run(n.first())
}

func takesSome(a api.Auto) bool {
	return slices.ContainsFunc(a.States, func(s api.State) bool { return s.Rule >= 0 })
}

// hunt goes through a net and an automaton side by side.
type hunt struct {
	net     *net
	auto    api.Auto
	room    int
	met     []meeting
	waiting [][]int // the meetings from which it did not go on yet, by the sizes of their sets
	meet    func(m meeting)
	wrong   func(state int, set []int) bool
}

// meeting is a state of the automaton and a set of knots to which one text leads.
type meeting struct {
	state int
	set   []int
	step
}

func newHunt(n *net, a api.Auto, room int) *hunt {
	return &hunt{net: n, auto: a, room: room}
}

func (h *hunt) add(m meeting) {
	for len(h.waiting) <= len(m.set) {
		h.waiting = append(h.waiting, nil)
	}
	h.waiting[len(m.set)] = append(h.waiting[len(m.set)], len(h.met))
	h.met = append(h.met, m)
}

// eachKnot meets each knot of a set alone, and with each state once.
func (h *hunt) eachKnot(known map[pair]int) func(m meeting) {
	return func(m meeting) {
		for _, k := range m.set {
			at := pair{m.state, k}
			if _, old := known[at]; !old {
				known[at] = len(h.met)
				h.add(meeting{m.state, []int{k}, m.step})
			}
		}
	}
}

// leastSets meets only sets within which there is none that was met with the same state: a text that leads to no end from a set does not from those within it, either.
func (h *hunt) leastSets(known [][][]int) func(m meeting) {
	return func(m meeting) {
		l := known[m.state-nowhere]
		h.room -= len(l) / setBurden
		if !slices.ContainsFunc(l, func(set []int) bool { return within(set, m.set) }) {
			known[m.state-nowhere] = append(l, m.set)
			h.add(m)
		}
	}
}

// within says whether all numbers of one list stand in another one; both are in ascending order.
func within(a, b []int) bool {
	for len(a) > 0 && len(a) <= len(b) && a[0] >= b[0] {
		if a[0] == b[0] {
			a = a[1:]
		}
		b = b[1:]
	}
	return len(a) == 0
}

// run gives the text of a meeting that is wrong; it begins with a set of knots.
func (h *hunt) run(first []int) ([]int, bool) {
	h.meet(meeting{start(h.auto), first, step{from: nowhere}})
	for h.room >= 0 {
		i := h.next()
		if i == nowhere {
			return nil, true
		}
		if h.wrong(h.met[i].state, h.met[i].set) {
			return wayTo(i, func(k int) step { return h.met[k].step }), true
		}
		h.goOn(i)
	}
	return nil, false
}

// next takes one of those with the smallest sets: they come soonest to where nothing is taken.
func (h *hunt) next() int {
	for size, l := range h.waiting {
		if len(l) > 0 {
			h.waiting[size] = l[1:]
			return l[0]
		}
	}
	return nowhere
}

func (h *hunt) goOn(i int) {
	var sets [][]int
	var moves []api.Move
	h.room -= setBurden + h.net.onward(h.met[i].set, func(lo, hi int, set []int) {
		moves = append(moves, api.Move{Lo: lo, Hi: hi, To: len(sets)})
		sets = append(sets, set)
	})
	byBoth(movesOf(h.auto, h.met[i].state), moves, func(lo, _, state, k int) {
		m := meeting{state: state, step: step{i, lo}}
		if k != nowhere {
			m.set = sets[k]
		}
		h.meet(m)
	})
}
