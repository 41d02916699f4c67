package table

import (
	"cmp"

	"grammarsmith/marks"
)

// item is a production with a place in its Right. Items that differ in their looks alone are told as one with a set of looks.
type item struct {
	prod, place int
}

// items are a set of items, each with its looks.
type items map[item]marks.Set

func inOrder(a, b item) int {
	return cmp.Or(a.prod-b.prod, a.place-b.place)
}

// closed adds what a set of items has to have to be closed. None of them is in the set already: they stand at place 0, where of a state's own ones that of the goal alone does.
func (r *rules) closed(own items) items {
	out := items{}
	names := newGrowth[int]()
	for i, looks := range own {
		out[i] = looks
		r.open(i, looks, names)
	}
	for n, looks := range names.all() {
		for _, p := range r.own[n] {
			r.open(item{prod: p}, looks, names)
		}
	}
	for n, f := range names.facts {
		for _, p := range r.own[n] {
			out[item{prod: p}] = f.looks
		}
	}
	return out
}

// open tells the looks of the name ahead of which an item's place stands, if it does.
func (r *rules) open(i item, looks marks.Set, names *growth[int]) {
	if n, named := r.nameAhead(i); named {
		names.tell(n, r.behind(i, looks))
	}
}

// moved gives for each column ahead of which items stand these with the place one further.
func (r *rules) moved(set items) map[int]items {
	out := map[int]items{}
	for i, looks := range set {
		column, is := r.ahead(i)
		if !is {
			continue
		}
		if out[column] == nil {
			out[column] = items{}
		}
		out[column][item{i.prod, i.place + 1}] = looks
	}
	return out
}
