package parse

import (
	"slices"

	"grammarsmith/api"
)

// pile is the trees that are not yet within another one, and the states to which they led. A pile is never changed, so that several parsers may go on from the same one.
type pile struct {
	below  *pile
	height int       // how many trees there are
	tree   *api.Tree // the last one; nil where there is none
	state  int       // that behind the last tree
}

func (l *pile) with(tree *api.Tree, state int) *pile {
	return &pile{below: l, height: l.height + 1, tree: tree, state: state}
}

// parted gives the last trees, so many, and the pile without them. There must be as many.
func (l *pile) parted(count int) ([]*api.Tree, *pile) {
	var last []*api.Tree
	for range count {
		last = append(last, l.tree)
		l = l.below
	}
	slices.Reverse(last)
	return last, l
}
