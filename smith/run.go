package smith

import (
	"errors"
	"slices"

	"grammarsmith/action"
	"grammarsmith/api"
	"grammarsmith/parse"
	"grammarsmith/points"
)

// read gives the tree of a text, and the tokens that are its leaves.
func (t *Tool) read(s string) (*api.Tree, []api.Token, error) {
	tokens := t.scanner.Scan(s)
	var in []int
	for _, k := range tokens {
		if k.Rule < 0 {
			return nil, nil, fault(api.ErrSyntax, k.From)
		}
		in = append(in, t.terms[k.Rule])
	}
	tree, err := parse.Parse(t.grammar, t.table, in)
	if err != nil {
		return nil, nil, placed(err, tokens, s)
	}
	return tree, tokens, nil
}

// placed tells an error that has the number of a token by the byte at which that token begins.
func placed(err error, tokens []api.Token, s string) error {
	var f *api.Fault
	if !errors.As(err, &f) {
		return err
	}
	if f.At == len(tokens) {
		return fault(f.Err, len(s))
	}
	return fault(f.Err, tokens[f.At].From)
}

// value makes the value of a tree. The values of trees that are not yet within another one stand in a row: those of a node's kids are its last ones.
func (t *Tool) value(tree *api.Tree, tokens []api.Token, s string) api.Value {
	var row []action.Weighed
	for _, r := range kidsFirst(tree) {
		if r.Prod < 0 {
			k := tokens[r.Token]
			row = append(row, textOf(s[k.From:k.To]))
			continue
		}
		rest := len(row) - len(r.Kids)
		row = append(row[:rest], action.Make(t.actions[r.Prod], row[rest:]))
	}
	return row[0].Own()
}

// kidsFirst gives all trees in a tree from left to right, each behind its kids. Trees may be too deep to go into each other.
func kidsFirst(tree *api.Tree) []*api.Tree {
	var out []*api.Tree
	work := []*api.Tree{tree}
	for len(work) > 0 {
		r := work[len(work)-1]
		work = append(work[:len(work)-1], r.Kids...)
		out = append(out, r)
	}
	slices.Reverse(out)
	return out
}

// textOf is the value of a leaf; a byte that belongs to no code point is FFFD in it.
func textOf(s string) action.Weighed {
	return action.Weigh(api.Value{Kind: api.Text, Text: points.Text(points.Points(s))})
}
