package scan

import (
	"iter"

	"grammarsmith/api"
)

// tokens goes through the tokens of a text, those of rules with Skip too.
func (x *Scanner) tokens(s string) iter.Seq[api.Token] {
	return func(yield func(api.Token) bool) {
		vain := vainSpots{}
		modes := holding(nil)
		for p := firstPlace(); p.at < len(s); {
			number := innermost(modes)
			m := x.mode(number)
			rule, to, _ := m.longest(s, p.at, vain.passBy(number, m, m.walk(s, p.at)))
			if !yield(p.token(rule, to)) {
				return
			}
			modes = x.behind(modes, rule)
			p = p.upTo(s, to)
		}
	}
}

// spot is a state of a mode's automaton at a byte of a text.
type spot struct {
	mode, state, at int
}

// vainSpots are the spots of a text from which no rule's text ends any more, and how many walks have shown it. A later walk need not go on there: so where each would go on far in vain, the time of all of them still grows only as the text's length does.
type vainSpots map[spot]int

// spotBytes is how far apart the spots are that are kept, so that few are.
const spotBytes = 64

// passBy goes as a walk does, but not on from where that is in vain.
func (v vainSpots) passBy(number int, m *mode, walk iter.Seq[reach]) iter.Seq[reach] {
	return func(yield func(reach) bool) {
		var last []spot
		for r := range walk {
			here, kept := spot{number, r.state, r.to}, r.to/spotBytes > r.from/spotBytes
			if kept && v.has(here) {
				break
			}
			if m.takes(r) != noRule {
				last = last[:0]
			} else if kept && r.state != nowhere {
				last = append(last, here)
			}
			if !yield(r) {
				return
			}
		}
		v.add(last)
	}
}

func (v vainSpots) has(s spot) bool {
	return v[s] > 0
}

func (v vainSpots) add(l []spot) {
	for _, s := range l {
		v[s]++
	}
}
