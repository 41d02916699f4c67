package auto

import "grammarsmith/api"

// trial guesses the least automaton of a net by what sets of knots say to some tests. Two that do not say the same are two states for sure; two that do are taken for one.
type trial struct {
	net    *net
	tests  [][]bool
	rows   *book        // the sets of knots that were met
	said   [][]byte     // of each row: what it says to each test: the rule and 1
	states []int        // the rows that stand for a state each
	moves  [][]api.Move // of each state; To is a row
	known  map[string]int
}

// newTrial begins with the test of the empty text.
func newTrial(n *net) *trial {
	t := &trial{net: n, tests: [][]bool{n.emptyTest()}, rows: newBook()}
	t.row(n.first())
	t.renew()
	return t
}

// row gives the number of a set of knots.
func (t *trial) row(set []int) int {
	r := t.rows.number(set)
	if r == len(t.said) {
		var said []byte
		for _, test := range t.tests {
			said = append(said, t.saysTo(set, test))
		}
		t.said = append(t.said, said)
	}
	return r
}

func (t *trial) saysTo(set []int, test []bool) byte {
	return byte(t.net.says(set, test) + 1)
}

// add adds a test; renew must follow.
func (t *trial) add(test []bool) {
	t.tests = append(t.tests, test)
	for r, set := range t.rows.sets {
		t.said[r] = append(t.said[r], t.saysTo(set, test))
	}
}

// renew finds the states again by all that they say now.
func (t *trial) renew() {
	t.known = map[string]int{}
	for i, r := range t.states {
		t.known[string(t.said[r])] = i
	}
}

// stateOf gives the state for which a row is taken, if there is one; nowhere for a row of which no test is taken.
func (t *trial) stateOf(row int) (int, bool) {
	for _, rule := range t.said[row] {
		if rule > 0 {
			i, known := t.known[string(t.said[row])]
			return i, known
		}
	}
	return nowhere, true
}

// meet makes a state of a row that is taken for none.
func (t *trial) meet(row int) {
	if _, known := t.stateOf(row); !known {
		t.known[string(t.said[row])] = len(t.states)
		t.states = append(t.states, row)
	}
}

// close finds states until each leads to states only. It fails if there are more than MaxStates.
func (t *trial) close() bool {
	t.meet(0)
	for i := 0; i < len(t.states) && len(t.states) <= api.MaxStates; i++ {
		if i == len(t.moves) {
			t.moves = append(t.moves, t.movesFrom(t.rows.sets[t.states[i]]))
		}
		for _, m := range t.moves[i] {
			t.meet(m.To)
		}
	}
	return len(t.states) <= api.MaxStates
}

func (t *trial) movesFrom(set []int) []api.Move {
	var moves []api.Move
	t.net.onward(set, func(lo, hi int, set []int) {
		moves = append(moves, api.Move{Lo: lo, Hi: hi, To: t.row(set)})
	})
	return moves
}

// guess gives the automaton of the states; close must have been called ahead of it.
func (t *trial) guess() api.Auto {
	var a api.Auto
	for i, r := range t.states {
		s := api.State{Rule: int(t.said[r][0]) - 1}
		for _, m := range t.moves[i] {
			if to, _ := t.stateOf(m.To); to != nowhere {
				s.Moves = append(s.Moves, api.Move{Lo: m.Lo, Hi: m.Hi, To: to})
			}
		}
		a.States = append(a.States, s)
	}
	return a
}
