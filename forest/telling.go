package forest

import (
	"grammarsmith/api"
	"grammarsmith/marks"
)

// teller gives trees by their number in the order, nil where there are not as many.
type teller interface {
	tree(number int) *draft
}

// telling tells the plain trees of a phrase in which no name of above stands with the same leaves. It finds them one by one, as they are asked for, and keeps them.
type telling struct {
	*forest
	host   *phrase
	barred marks.Set // the names of above, and the phrase's own
	free   marks.Set // the names that may stand as kids with the same leaves
	prods  []int     // those that are not yet begun
	row    *row      // the one at hand
	found  []*draft
}

func (f *forest) tellingOf(p *phrase, above marks.Set) *telling {
	if t, is := p.tellings[above]; is {
		return t
	}
	if p.tellings == nil {
		p.tellings = map[marks.Set]*telling{}
	}
	barred := above.With(p.name)
	t := &telling{forest: f, host: p, barred: barred, free: f.freeIn(p, barred), prods: p.prods}
	p.tellings[above] = t
	return t
}

func (t *telling) tree(number int) *draft {
	for number >= len(t.found) {
		if !t.findNext() {
			return nil
		}
	}
	return t.found[number]
}

func (t *telling) findNext() bool {
	for {
		if t.row != nil && t.row.next() {
			t.found = append(t.found, t.row.draft())
			return true
		}
		if len(t.prods) == 0 {
			t.row = nil
			return false
		}
		t.row = t.rowOf(t.prods[0])
		t.prods = t.prods[1:]
	}
}

// tellerIn: a word has but one tree.
func (w word) tellerIn(*telling) teller {
	return w
}

func (w word) tree(number int) *draft {
	if number > 0 {
		return nil
	}
	return leafOf(w.at)
}

// tellerIn: where a phrase has all leaves of the node in which it stands, the same names are barred. Those that never stand within it need not be: so one telling serves for many.
func (p *phrase) tellerIn(t *telling) teller {
	if p.leaves() != t.host.leaves() {
		return t.tellingOf(p, marks.Set{})
	}
	return t.tellingOf(p, t.barred.Meet(p.inside))
}

// plainTrees gives the first plain trees of the whole, so many, if there are. Those with which the answer would become longer than is promised are not told.
func (f *forest) plainTrees(n int) []*api.Tree {
	var out []*api.Tree
	all, size := f.tellingOf(f.root, marks.Set{}), int64(0)
	for number := range n {
		d := all.tree(number)
		if d == nil || size+d.size > maxSize {
			break
		}
		size += d.size
		out = append(out, d.copied())
	}
	return out
}
