package parse

import (
	"slices"

	"grammarsmith/api"
	"grammarsmith/copies"
)

// Course is how terminals were read by a table, as far as they could be. It is never changed.
type Course struct {
	grammar api.Grammar
	table   api.Table
	in      []int
	tops    []*pile // what was there ahead of the first terminal, and behind each that was shifted
}

// NewCourse: that of no terminals, by a table which must fit.
func NewCourse(g api.Grammar, t api.Table) (*Course, error) {
	if !Fits(g, t) {
		return nil, api.ErrSyntax
	}
	return &Course{grammar: copies.Grammar(g), table: copies.Table(t), tops: []*pile{{}}}, nil
}

// Of: the course of other terminals. What they begin with as those of this one do is not read again.
func (c *Course) Of(in []int) *Course {
	next := &Course{grammar: c.grammar, table: c.table, in: slices.Clone(in)}
	kept := min(alikeAhead(c.in, in), len(c.tops)-1)
	next.tops = c.tops[: kept+1 : kept+1]
	p := next.onward()
	for p.at < len(in) && p.step() == nil {
		if p.at == len(next.tops) {
			next.tops = append(next.tops, p.top)
		}
	}
	return next
}

// alikeAhead gives with how many of the same both lists begin.
func alikeAhead(a, b []int) int {
	for i := range min(len(a), len(b)) {
		if a[i] != b[i] {
			return i
		}
	}
	return min(len(a), len(b))
}

// onward is a parser that goes on where the course ends.
func (c *Course) onward() *parser {
	shifted := len(c.tops) - 1
	p := parserFrom(c.tops[shifted], c.grammar, c.table, c.in)
	p.at = shifted
	return p
}

// Tree: what Parse says of the terminals.
func (c *Course) Tree() (*api.Tree, error) {
	r, err := c.onward().rest()
	if err != nil {
		return nil, err
	}
	return copies.Tree(r), nil
}
