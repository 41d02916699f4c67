package parse

import "grammarsmith/api"

// nowhere is where a state leads by a name that can not stand there.
const nowhere = -1

func rowsFit(g api.Grammar, t api.Table) bool {
	states := len(t.Acts)
	if states == 0 || states > api.MaxTable || len(t.Gotos) != states {
		return false
	}
	for s := range states {
		if !actsFit(g, states, t.Acts[s]) || !gotosFit(g, states, t.Gotos[s]) {
			return false
		}
	}
	return true
}

func actsFit(g api.Grammar, states int, row []api.Act) bool {
	if len(row) != g.Terms+1 {
		return false
	}
	for term, a := range row {
		if !actFits(g, states, term, a) {
			return false
		}
	}
	return true
}

func actFits(g api.Grammar, states, term int, a api.Act) bool {
	atEnd := term == g.Terms
	switch a.Kind {
	case api.ActNone:
		return a.To == 0
	case api.ActShift:
		return !atEnd && a.To >= 0 && a.To < states
	case api.ActReduce:
		return a.To >= 0 && a.To < len(g.Prods)
	case api.ActAccept:
		return atEnd && a.To == 0
	}
	return false
}

func gotosFit(g api.Grammar, states int, row []int) bool {
	if len(row) != g.Names {
		return false
	}
	for _, to := range row {
		if to < nowhere || to >= states {
			return false
		}
	}
	return true
}
