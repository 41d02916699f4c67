package forest

import (
	"slices"

	"grammarsmith/marks"
)

// frame is a production of a phrase's nodes in which only some names may stand with the same leaves as the phrase.
type frame struct {
	*forest
	host *phrase
	prod int
	free marks.Set
	open []bool // by dots: whether all symbols behind the dot can be filled, where nothing ahead of it has leaves
}

func (f *forest) frameOf(host *phrase, prod int, free marks.Set) *frame {
	last := len(f.right(prod))
	r := &frame{forest: f, host: host, prod: prod, free: free, open: make([]bool, last+1)}
	r.open[last] = true
	for dot := last - 1; dot >= 0; dot-- {
		r.open[dot] = r.kidEnds(dot, host.from) != 0
	}
	return r
}

// kidEnds gives the places at which the kid behind the dot can end, if it begins at a place. Where leaves stand ahead of it, no kid from there on has all of them.
func (r *frame) kidEnds(dot, at int) places {
	out := r.choices(r.prod, dot, at, r.host.to)
	if at != r.host.from {
		return out
	}
	if n, named := nameOf(r.right(r.prod)[dot]); named && !r.free.Has(n) {
		out &^= placeOf(r.host.to)
	}
	if !r.open[dot+1] {
		out &^= placeOf(at)
	}
	return out
}

// closing finds which of the phrases of one span have trees in which no barred name stands with the same leaves. (Then they have plain ones.)
func (f *forest) closing(all []*phrase, barred marks.Set) marks.Set {
	var out marks.Set
	for asked := slices.Clone(all); len(asked) > 0; {
		p := asked[0]
		asked = asked[1:]
		if !out.Has(p.name) && !barred.Has(p.name) && f.closes(p, out) {
			out = out.With(p.name)
			asked = append(asked, p.hosts...)
		}
	}
	return out
}

// closes: whether a phrase has a node in which only free names stand as kids with the same leaves.
func (f *forest) closes(p *phrase, free marks.Set) bool {
	return slices.ContainsFunc(p.prods, func(prod int) bool { return f.frameOf(p, prod, free).open[0] })
}

// freeIn finds the names that may stand as kids with the same leaves in nodes of a phrase, where others are barred, its own among them. As long as no barred one stands within, all may.
func (f *forest) freeIn(p *phrase, barred marks.Set) marks.Set {
	if p.inside.Meet(barred) == (marks.Set{}) {
		return p.inside
	}
	return f.closing(f.spans[f.span(p.from, p.to)], barred)
}
