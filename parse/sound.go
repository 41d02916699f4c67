package parse

import "grammarsmith/api"

// walk goes through a tree from left to right, and holds its leaves against terminals.
type walk struct {
	grammar api.Grammar
	in      []int
	at      int                    // the number of the next leaf
	bare    map[*api.Tree]struct{} // nodes without leaves that were gone through: one that stands in many places is gone through but once
}

func walkOf(g api.Grammar, in []int) *walk {
	return &walk{grammar: g, in: in, bare: map[*api.Tree]struct{}{}}
}

func (w *walk) isTree(r *api.Tree, symbol int) bool {
	if symbol >= 0 {
		return w.isLeaf(r, symbol)
	}
	return w.isNode(r, -1-symbol)
}

func (w *walk) isLeaf(r *api.Tree, term int) bool {
	if r == nil || r.Prod != leaf || len(r.Kids) > 0 || r.Token != w.at {
		return false
	}
	if w.at == len(w.in) || w.in[w.at] != term {
		return false
	}
	w.at++
	return true
}

func (w *walk) isNode(r *api.Tree, name int) bool {
	if !w.isOf(r, name) {
		return false
	}
	if _, met := w.bare[r]; met {
		return true
	}
	from := w.at
	for i, symbol := range w.grammar.Prods[r.Prod].Right {
		if !w.isTree(r.Kids[i], symbol) {
			return false
		}
	}
	if w.at == from {
		w.bare[r] = struct{}{}
	}
	return true
}

// isOf: whether a node has a production of the name, and as many kids as that asks for.
func (w *walk) isOf(r *api.Tree, name int) bool {
	if r == nil || r.Prod < 0 || r.Prod >= len(w.grammar.Prods) || r.Token != 0 {
		return false
	}
	rule := w.grammar.Prods[r.Prod]
	return rule.Left == name && len(rule.Right) == len(r.Kids)
}
