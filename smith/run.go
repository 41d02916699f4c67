package smith

import (
	"errors"
	"slices"

	"grammarsmith/action"
	"grammarsmith/api"
	"grammarsmith/parse"
	"grammarsmith/points"
)

// Reading is a text as a tool reads it: its tokens, and what the parser came to with them. It is never changed.
type Reading struct {
	tool   *Tool
	text   string
	tokens []api.Token
	course *parse.Course
}

// Of: the reading of another text, with its tokens, which are those that Scan would tell. What they begin with as those of this one do is not read again.
func (r *Reading) Of(s string, tokens []api.Token) *Reading {
	var in []int
	for _, k := range tokens {
		in = append(in, r.tool.terminal(k))
	}
	return &Reading{r.tool, s, slices.Clone(tokens), r.course.Of(in)}
}

// terminal gives that of a token; -1, if it is of no rule.
func (t *Tool) terminal(k api.Token) int {
	if k.Rule < 0 || k.Rule >= len(t.terms) {
		return -1
	}
	return t.terms[k.Rule]
}

// Tree: the tree of the text.
func (r *Reading) Tree() (*api.Tree, error) {
	for _, k := range r.tokens {
		if r.tool.terminal(k) < 0 {
			return nil, fault(api.ErrSyntax, k.From)
		}
	}
	tree, err := r.course.Tree()
	if err != nil {
		return nil, r.placed(err)
	}
	return tree, nil
}

// placed tells an error that has the number of a token by the byte at which that token begins.
func (r *Reading) placed(err error) error {
	var f *api.Fault
	if !errors.As(err, &f) {
		return err
	}
	if f.At == len(r.tokens) {
		return fault(f.Err, len(r.text))
	}
	return fault(f.Err, r.tokens[f.At].From)
}

// Run: the value of the text. The values of trees that are not yet within another one stand in a row: those of a node's kids are its last ones.
func (r *Reading) Run() (api.Value, error) {
	tree, err := r.Tree()
	if err != nil {
		return api.Value{}, err
	}
	var row []action.Weighed
	for _, part := range kidsFirst(tree) {
		if part.Prod < 0 {
			row = append(row, r.leaf(r.tokens[part.Token]))
			continue
		}
		rest := len(row) - len(part.Kids)
		row = append(row[:rest], action.Make(r.tool.actions[part.Prod], row[rest:]))
	}
	return row[0].Own(), nil
}

// kidsFirst gives all trees in a tree from left to right, each behind its kids. Trees may be too deep to go into each other.
func kidsFirst(tree *api.Tree) []*api.Tree {
	var out []*api.Tree
	work := []*api.Tree{tree}
	for len(work) > 0 {
		r := work[len(work)-1]
		work = append(work[:len(work)-1], r.Kids...)
		out = append(out, r)
	}
	slices.Reverse(out)
	return out
}

// leaf gives the value of a token; a byte that belongs to no code point is FFFD in it.
func (r *Reading) leaf(k api.Token) action.Weighed {
	if k.From < 0 || k.To < k.From || k.To > len(r.text) {
		return action.Weigh(api.Value{Kind: api.Text})
	}
	return action.Weigh(api.Value{Kind: api.Text, Text: points.Text(points.Points(r.text[k.From:k.To]))})
}
