package auto

import (
	"cmp"
	"slices"

	"grammarsmith/api"
)

// nowhere is the number of no state: from it nothing is taken.
const nowhere = -1

func start(a api.Auto) int {
	if len(a.States) == 0 {
		return nowhere
	}
	return 0
}

func ruleOf(a api.Auto, state int) int {
	if state == nowhere {
		return -1
	}
	return a.States[state].Rule
}

func movesOf(a api.Auto, state int) []api.Move {
	if state == nowhere {
		return nil
	}
	return a.States[state].Moves
}

// next is the state to which a point leads.
func next(a api.Auto, state, point int) int {
	moves := movesOf(a, state)
	i, _ := slices.BinarySearchFunc(moves, point, func(m api.Move, p int) int { return cmp.Compare(m.Hi, p) })
	if i < len(moves) && moves[i].Lo <= point {
		return moves[i].To
	}
	return nowhere
}

// extend puts a move behind others; where it touches the last one and leads to the same state, that one becomes longer.
func extend(moves []api.Move, m api.Move) []api.Move {
	if n := len(moves); n > 0 && moves[n-1].Hi+1 == m.Lo && moves[n-1].To == m.To {
		moves[n-1].Hi = m.Hi
		return moves
	}
	return append(moves, m)
}

// byBoth goes in ascending order through the stretches of points by which one of two lists of moves, or both, lead on.
func byBoth(a, b []api.Move, take func(lo, hi, toA, toB int)) {
	for at := 0; len(a) > 0 || len(b) > 0; {
		loA, hiA, toA := upcoming(a, at)
		loB, hiB, toB := upcoming(b, at)
		at = min(loA, loB)
		end := min(hiA, hiB)
		if loA > at {
			toA, end = nowhere, min(hiB, loA-1)
		}
		if loB > at {
			toB, end = nowhere, min(hiA, loB-1)
		}
		take(at, end, toA, toB)
		at = end + 1
		a, b = behind(a, at), behind(b, at)
	}
}

// upcoming gives what of the first move is not behind yet; without a move it is out of the way, above all points.
func upcoming(moves []api.Move, at int) (lo, hi, to int) {
	if len(moves) == 0 {
		return api.MaxPoint + 2, api.MaxPoint + 2, nowhere
	}
	return max(moves[0].Lo, at), moves[0].Hi, moves[0].To
}

func behind(moves []api.Move, at int) []api.Move {
	if len(moves) > 0 && moves[0].Hi < at {
		return moves[1:]
	}
	return moves
}
