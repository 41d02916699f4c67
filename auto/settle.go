package auto

import "grammarsmith/api"

// How much a way may look at, first, and how many times more each time that none came to an end.
const (
	firstRoom  = 1 << 18
	moreRoom   = 4
	setBurden  = 16  // what a set costs beside its moves
	testBurden = 256 // what a test costs beside the moves
)

// settle gives the least automaton of nets that stand for the same, unless it has more than MaxStates states. There are nets with few states whose sets of knots are far too many to be gone through, from the front or from the back; and of nets with too many states it must be seen that they have, without finding them all. So several ways are tried: each answers for sure, or gives up.
func settle(nets []*net) (api.Auto, bool) {
	for room := firstRoom; ; room *= moreRoom {
		for _, way := range []func(*net, int) answer{fromFront, fromBack, byTrial} {
			for _, n := range nets {
				if a := way(n, room); a.sure {
					return a.auto, a.small
				}
			}
		}
		for _, n := range nets {
			n.findCovers()
		}
	}
}

// answer is what a way found: whether it is sure, and then whether the least automaton has at most MaxStates states, and which it is.
type answer struct {
	sure, small bool
	auto        api.Auto
}

func unsure() answer {
	return answer{}
}

func tooLarge() answer {
	return answer{sure: true}
}

func found(a api.Auto) answer {
	a = least(a)
	if len(a.States) > api.MaxStates {
		return tooLarge()
	}
	return answer{sure: true, small: true, auto: a}
}

// book numbers sets of knots in the order in which they are met.
type book struct {
	sets    [][]int
	numbers map[string]int
}

func newBook() *book {
	return &book{numbers: map[string]int{}}
}

func (b *book) number(set []int) int {
	var text []byte
	for _, k := range set {
		text = appendNumber(text, k)
	}
	n, known := b.numbers[string(text)]
	if !known {
		n = len(b.sets)
		b.numbers[string(text)] = n
		b.sets = append(b.sets, set)
	}
	return n
}

// fromFront makes a state of each set of knots to which a text leads.
func fromFront(n *net, room int) answer {
	b, empty := newBook(), n.emptyTest()
	b.number(n.first())
	var a api.Auto
	for i := 0; i < len(b.sets); i++ {
		s := api.State{Rule: n.says(b.sets[i], empty)}
		room -= setBurden + n.onward(b.sets[i], func(lo, hi int, set []int) {
			s.Moves = append(s.Moves, api.Move{Lo: lo, Hi: hi, To: b.number(set)})
		})
		if room < 0 {
			return unsure()
		}
		a.States = append(a.States, s)
	}
	return found(a)
}

// fromBack finds the tests of all texts: what a set of knots says to all of them tells it apart from the others.
func fromBack(n *net, room int) answer {
	b := newBook()
	b.number([]int{endKnot})
	for i := 0; i < len(b.sets); i++ {
		room -= testBurden + n.backward(n.testOf(b.sets[i]), func(_, _ int, set []int) { b.number(set) })
		if room < 0 {
			return unsure()
		}
	}
	t := newTrial(n)
	// A few of them may be enough to see that there are too many states.
	for more := 1; t.close(); more *= 2 {
		known := len(t.tests)
		if known == len(b.sets) {
			return found(t.guess())
		}
		for _, set := range b.sets[known:min(known+more, len(b.sets))] {
			t.add(n.testOf(set))
		}
		t.renew()
	}
	return tooLarge()
}
