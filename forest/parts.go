package forest

import "grammarsmith/marks"

// part is what stands on the chart as a part of trees of Start: a word or a phrase.
type part interface {
	tellerIn(t *telling) teller // tells its trees, where it is a kid in those that another one tells
}

// word is a terminal, by its number.
type word struct {
	at int
}

// phrase is a name with the leaves from one place to another.
type phrase struct {
	number   int
	name     int
	from, to int
	prods    []int                  // the productions with which its nodes can stand
	inside   marks.Set              // the names that stand within with the same leaves
	hosts    []*phrase              // those that have it as a kid with the same leaves
	tellings map[marks.Set]*telling // by the names that are barred from above
}

func (p *phrase) leaves() int {
	return p.to - p.from
}

// forest is all phrases that stand in trees of Start with the terminals of a chart as their sentence, and no others.
type forest struct {
	*chart
	root    *phrase
	phrases []*phrase   // by names and both places; nil where there is none
	spans   [][]*phrase // by both places
	met     []places    // by names and the place from which: up to where phrases were met
	count   int         // how many phrases there are
}

// grownOn goes from the whole of a sentence to its parts: from what has more leaves to what has fewer.
func grownOn(c *chart) *forest {
	side, names := c.length+1, c.grammar.Names
	f := &forest{chart: c, phrases: make([]*phrase, names*side*side), spans: make([][]*phrase, side*side), met: make([]places, names*side)}
	f.meet(c.grammar.Start, 0, c.length)
	f.root = f.phrase(c.grammar.Start, 0, c.length)
	for leaves := c.length; leaves >= 0; leaves-- {
		for from := range side - leaves {
			f.branch(f.span(from, from+leaves))
		}
	}
	return f
}

// span is the number of two places.
func (f *forest) span(from, to int) int {
	return from*(f.length+1) + to
}

// spot is the number of a name with two places.
func (f *forest) spot(name, from, to int) int {
	return name*len(f.spans) + f.span(from, to)
}

// merged: a node without leaves is the same at every place. So there is one phrase for all of them, at the first one.
func merged(from, to int) (int, int) {
	if from == to {
		return 0, 0
	}
	return from, to
}

func (f *forest) phrase(name, from, to int) *phrase {
	from, to = merged(from, to)
	return f.phrases[f.spot(name, from, to)]
}

// part gives what a symbol from one place to another is.
func (f *forest) part(symbol, from, to int) part {
	if n, named := nameOf(symbol); named {
		return f.phrase(n, from, to)
	}
	return word{from}
}

// meet puts a phrase to the others, if it is not there yet.
func (f *forest) meet(name, from, to int) {
	from, to = merged(from, to)
	spot, span := f.spot(name, from, to), f.span(from, to)
	if f.phrases[spot] != nil {
		return
	}
	p := &phrase{number: f.count, name: name, from: from, to: to}
	for _, prod := range f.own[name] {
		if f.from(prod, 0, to).has(from) {
			p.prods = append(p.prods, prod)
		}
	}
	f.count++
	f.phrases[spot] = p
	f.spans[span] = append(f.spans[span], p)
}

// branch finds the parts of all phrases of a span. Those of the same span, which are found on the way, have parts, too.
func (f *forest) branch(span int) {
	for i := 0; i < len(f.spans[span]); i++ {
		for _, prod := range f.spans[span][i].prods {
			f.split(f.spans[span][i], prod)
		}
	}
	lookInside(f.spans[span])
}

// split finds the parts of a phrase's nodes with one production.
func (f *forest) split(host *phrase, prod int) {
	at := placeOf(host.from)
	for dot, s := range f.right(prod) {
		var next places
		for ; at != 0; at = at.others() {
			ends := f.choices(prod, dot, at.first(), host.to)
			if n, named := nameOf(s); named {
				f.take(host, n, at.first(), ends)
			}
			next |= ends
		}
		at = next
	}
}

// take notes the kids of a phrase that have a name and begin at a place.
func (f *forest) take(host *phrase, name, at int, ends places) {
	met := &f.met[name*(f.length+1)+at]
	for fresh := ends &^ *met; fresh != 0; fresh = fresh.others() {
		f.meet(name, at, fresh.first())
	}
	*met |= ends
	if at == host.from && ends.has(host.to) && !host.inside.Has(name) {
		host.inside = host.inside.With(name)
		kid := f.phrase(name, host.from, host.to)
		kid.hosts = append(kid.hosts, host)
	}
}

// lookInside adds to what stands within phrases of one span as a kid what stands within the kids: at first through one of the phrases alone, then through one more each time.
func lookInside(all []*phrase) {
	for _, kid := range all {
		for _, host := range all {
			if host.inside.Has(kid.name) {
				host.inside = host.inside.Join(kid.inside)
			}
		}
	}
}

// isEndless: whether a name stands within itself with the same leaves, so that it can do so any number of times.
func (f *forest) isEndless() bool {
	for _, all := range f.spans {
		for _, p := range all {
			if p.inside.Has(p.name) {
				return true
			}
		}
	}
	return false
}
