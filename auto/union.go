package auto

import "grammarsmith/api"

// gather gives the least automaton of as many automata, from the first on, as have one with at most MaxStates states, and how many these are. Each takes by its number, what those ahead of it do not. One more never leaves fewer states: where what it takes is left out again, the automaton runs as that of those ahead of it. So it may be gone through one by one, and two automata have no more than the pairs of their states.
func gather(l []api.Auto) (api.Auto, int) {
	var all api.Auto
	for i, a := range l {
		more := least(behindOther(all, a, i))
		if len(more.States) > api.MaxStates {
			return all, i
		}
		all = more
	}
	return all, len(l)
}

// behindOther takes what one automaton takes, and by a rule what only the other one does.
func behindOther(a, b api.Auto, rule int) api.Auto {
	var out api.Auto
	met := []pair{{start(a), start(b)}}
	known := map[pair]int{met[0]: 0}
	for i := 0; i < len(met); i++ {
		s := api.State{Rule: ruleOf(a, met[i].a)}
		if s.Rule < 0 && ruleOf(b, met[i].b) >= 0 {
			s.Rule = rule
		}
		byBoth(movesOf(a, met[i].a), movesOf(b, met[i].b), func(lo, hi, toA, toB int) {
			to := pair{toA, toB}
			n, old := known[to]
			if !old {
				n = len(met)
				known[to] = n
				met = append(met, to)
			}
			s.Moves = append(s.Moves, api.Move{Lo: lo, Hi: hi, To: n})
		})
		out.States = append(out.States, s)
	}
	return out
}
