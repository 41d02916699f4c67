package forest

import "grammarsmith/api"

// leaf is the Prod of a tree that is a terminal.
const leaf = -1

// maxSize is how many nodes and leaves an answer has at most: beyond that nothing is promised.
const maxSize = 1<<31 - 1

// draft is a tree that may stand in many others: only what is answered is copied.
type draft struct {
	prod, token int
	kids        []*draft
	size        int64 // how many nodes and leaves there are; if more than maxSize, just one more
}

func leafOf(token int) *draft {
	return &draft{prod: leaf, token: token, size: 1}
}

func nodeOf(prod int, kids []*draft) *draft {
	d := &draft{prod: prod, kids: kids, size: 1}
	for _, k := range kids {
		d.size = min(d.size+k.size, maxSize+1)
	}
	return d
}

func (d *draft) copied() *api.Tree {
	r := &api.Tree{Prod: d.prod, Token: d.token}
	for _, k := range d.kids {
		r.Kids = append(r.Kids, k.copied())
	}
	return r
}
