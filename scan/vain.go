package scan

import "iter"

// spot is a state of a mode's automaton at a byte of a text.
type spot struct {
	mode, state, at int
}

// vainSpots are the spots of a text from which no rule's text ends any more, each with the last reach of the walks that go on from there. A later walk need not go on there: so where each would go on far in vain, the time of all of them still grows only as the text's length does.
type vainSpots map[spot]reach

// spotBytes is how far apart the spots are that are kept, so that few are.
const spotBytes = 64

// passBy goes as a walk does; but where it is in vain to go on, it goes to the last reach at once.
func (v vainSpots) passBy(number int, m *mode, walk iter.Seq[reach]) iter.Seq[reach] {
	return func(yield func(reach) bool) {
		var passed []spot
		var last reach
		for r := range walk {
			here, kept := spot{number, r.state, r.to}, r.to/spotBytes > r.from/spotBytes
			if kept && v.has(here) {
				last = v[here]
				yield(last)
				break
			}
			if m.takes(r) != noRule {
				passed = passed[:0]
			} else if kept && r.state != nowhere {
				passed = append(passed, here)
			}
			if !yield(r) {
				return
			}
			last = r
		}
		v.add(passed, last)
	}
}

func (v vainSpots) has(s spot) bool {
	_, known := v[s]
	return known
}

func (v vainSpots) add(l []spot, last reach) {
	for _, s := range l {
		v[s] = last
	}
}
