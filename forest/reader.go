package forest

// reader fills a chart, place by place. What it finds out is told on at once, and each thing but once.
type reader struct {
	*chart
	stands  [][]stand // by names: where they stand in productions
	to      int       // the place at hand
	news    []places  // by names: where trees begin that end at this place, as far as it is not yet told on
	waiting []int     // the names of which there are news
}

// stand is where a symbol stands: just behind the dot of a production.
type stand struct {
	prod, dot int
}

func readerOf(c *chart) *reader {
	r := &reader{chart: c, stands: make([][]stand, c.grammar.Names), news: make([]places, c.grammar.Names)}
	for prod, p := range c.grammar.Prods {
		for dot, s := range p.Right {
			if n, named := nameOf(s); named {
				r.stands[n] = append(r.stands[n], stand{prod, dot})
			}
		}
	}
	return r
}

// readUpTo finds all that leads to a place. Behind the last symbol of a production nothing is to be read: so each leads there from there.
func (r *reader) readUpTo(to int) {
	r.to = to
	for prod, p := range r.grammar.Prods {
		r.goBack(prod, len(p.Right), placeOf(to))
	}
	for len(r.waiting) > 0 {
		last := len(r.waiting) - 1
		n := r.waiting[last]
		r.waiting = r.waiting[:last]
		r.tellOn(n)
	}
}

// goBack notes that what stands behind the dot leads here from some places, and what follows from that for the dots ahead of it.
func (r *reader) goBack(prod, dot int, at places) {
	for {
		known := &r.rests[r.to][r.front[prod]+dot]
		at &^= *known
		if at == 0 {
			return
		}
		*known |= at
		if dot == 0 {
			r.hear(r.grammar.Prods[prod].Left, at)
			return
		}
		dot--
		at = r.backward(r.right(prod)[dot], at)
	}
}

// hear notes that trees of a name lead here from some places.
func (r *reader) hear(name int, at places) {
	at &^= r.starts[r.to][name] | r.news[name]
	if at != 0 && r.news[name] == 0 {
		r.waiting = append(r.waiting, name)
	}
	r.news[name] |= at
}

// tellOn tells the news of a name where it stands ahead of nothing but what may be empty. Elsewhere it ends ahead of this place, and what follows is known.
func (r *reader) tellOn(name int) {
	at := r.news[name]
	r.news[name] = 0
	r.starts[r.to][name] |= at
	for _, s := range r.stands[name] {
		if r.from(s.prod, s.dot+1, r.to).has(r.to) {
			r.goBack(s.prod, s.dot, at)
		}
	}
}
