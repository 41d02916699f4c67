package auto

import (
	"cmp"
	"slices"

	"grammarsmith/api"
)

// sweep goes in ascending order through the stretches of points that lie in one of the moves, with the states to which the moves of each stretch lead. It sorts the moves.
func sweep(l []api.Move, take func(lo, hi int, to []int)) {
	slices.SortFunc(l, func(x, y api.Move) int { return cmp.Compare(x.Lo, y.Lo) })
	var open []api.Move
	at := 0
	for len(l) > 0 || len(open) > 0 {
		if len(open) == 0 {
			at = l[0].Lo
		}
		for len(l) > 0 && l[0].Lo == at {
			open, l = append(open, l[0]), l[1:]
		}
		end := open[0].Hi
		for _, m := range open {
			end = min(end, m.Hi)
		}
		if len(l) > 0 {
			end = min(end, l[0].Lo-1)
		}
		take(at, end, statesOf(open))
		at = end + 1
		open = slices.DeleteFunc(open, func(m api.Move) bool { return m.Hi < at })
	}
}

func statesOf(moves []api.Move) []int {
	var out []int
	for _, m := range moves {
		out = append(out, m.To)
	}
	return ascending(out)
}

// ascending sorts a list of numbers, and leaves each once.
func ascending(l []int) []int {
	slices.Sort(l)
	return slices.Compact(l)
}
