package auto

import (
	"cmp"
	"slices"

	"grammarsmith/api"
	"grammarsmith/points"
)

// alphabet is the points in classes, the class of the least point first, such that each set of some patterns is made of whole classes. Automata are made over the numbers of the classes: so it does not count how many ranges a set has. Their states are come to in the same order by classes as by points, for a class comes as early as its first point.
type alphabet struct {
	firsts    []int      // of each class: its first point
	stretches []api.Move // all points in ascending order; To is their class
}

func alphabetOf(l []*api.Re) *alphabet {
	c := &collector{known: map[string]int{}}
	for _, p := range l {
		c.collect(p)
	}
	x := &alphabet{}
	for i, class := range points.Classes(c.sets) {
		x.firsts = append(x.firsts, class[0].Lo)
		for _, r := range class {
			x.stretches = append(x.stretches, api.Move{Lo: r.Lo, Hi: r.Hi, To: i})
		}
	}
	slices.SortFunc(x.stretches, func(a, b api.Move) int { return cmp.Compare(a.Lo, b.Lo) })
	return x
}

// collector gathers the sets of patterns, each once: a great one may stand in many places.
type collector struct {
	known map[string]int
	sets  [][]api.Range
}

func (c *collector) collect(p *api.Re) {
	if p.Kind == api.RSet {
		var text []byte
		for _, r := range p.Set {
			text = appendNumber(appendNumber(text, r.Lo), r.Hi)
		}
		if _, old := c.known[string(text)]; !old {
			c.known[string(text)] = len(c.sets)
			c.sets = append(c.sets, p.Set)
		}
	}
	for _, k := range p.Kids {
		c.collect(k)
	}
}

// appendNumber writes a number below 2^32, each with as many bytes as the others.
func appendNumber(text []byte, n int) []byte {
	return append(text, byte(n>>24), byte(n>>16), byte(n>>8), byte(n))
}

// ofSet gives the automaton of a set, over classes.
func (x *alphabet) ofSet(set []api.Range) api.Auto {
	var moves []api.Move
	for class, p := range x.firsts {
		for len(set) > 0 && set[0].Hi < p {
			set = set[1:]
		}
		if len(set) > 0 && set[0].Lo <= p {
			moves = extend(moves, api.Move{Lo: class, Hi: class, To: 1})
		}
	}
	if len(moves) == 0 {
		return api.Auto{}
	}
	return api.Auto{States: []api.State{{Rule: -1, Moves: moves}, {Rule: 0}}}
}

// others gives for each automaton one that takes what it does not. By each class each state of these leads on.
func (x *alphabet) others(l []api.Auto) []api.Auto {
	var out []api.Auto
	for _, a := range l {
		out = append(out, x.other(a))
	}
	return out
}

func (x *alphabet) other(a api.Auto) api.Auto {
	var out api.Auto
	lost := len(a.States)
	all := []api.Move{{Lo: 0, Hi: len(x.firsts) - 1, To: lost}}
	for _, s := range a.States {
		var moves []api.Move
		byBoth(s.Moves, all, func(lo, hi, to, _ int) {
			if to == nowhere {
				to = lost
			}
			moves = append(moves, api.Move{Lo: lo, Hi: hi, To: to})
		})
		out.States = append(out.States, api.State{Rule: -1 - s.Rule, Moves: moves})
	}
	out.States = append(out.States, api.State{Rule: 0, Moves: all})
	return out
}

// spread gives the automaton over points of one over classes.
func (x *alphabet) spread(a api.Auto) api.Auto {
	var out api.Auto
	for _, s := range a.States {
		to := make([]int, len(x.firsts))
		for class := range to {
			to[class] = nowhere
		}
		for _, m := range s.Moves {
			for class := m.Lo; class <= m.Hi; class++ {
				to[class] = m.To
			}
		}
		var moves []api.Move
		for _, r := range x.stretches {
			if to[r.To] != nowhere {
				moves = extend(moves, api.Move{Lo: r.Lo, Hi: r.Hi, To: to[r.To]})
			}
		}
		out.States = append(out.States, api.State{Rule: s.Rule, Moves: moves})
	}
	return out
}
