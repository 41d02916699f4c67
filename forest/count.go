package forest

// amount is what can be counted with: at first none, then with the product of two added.
type amount[N any] interface {
	isNone() bool
	plusTimes(a, b N) N
}

// counter counts the trees of phrases. All that stands on the chart has a tree: so what counts none was not yet counted.
type counter[N amount[N]] struct {
	*forest
	one   N
	trees []N // by phrases
	to    int // the place at hand
	tails []N // by items and places: in how many ways what stands behind the dot leads from there to the place at hand
}

// counted counts all trees, if there is an end of them. It goes from what ends further left, and begins further right, to what has it within: so what is wanted is there, but for phrases of the same span, which are counted on the way.
func counted[N amount[N]](f *forest, one N) N {
	c := &counter[N]{forest: f, one: one, trees: make([]N, f.count), tails: make([]N, len(f.rests[0])*(f.length+1))}
	for to := range f.length + 1 {
		c.to = to
		clear(c.tails)
		for from := to; from >= 0; from-- {
			for _, p := range f.spans[f.span(from, to)] {
				c.treesOf(p)
			}
		}
	}
	return c.trees[f.root.number]
}

func (c *counter[N]) treesOf(x part) N {
	switch p := x.(type) {
	case *phrase:
		if c.trees[p.number].isNone() {
			c.trees[p.number] = c.nodesOf(p)
		}
		return c.trees[p.number]
	default: // a word is a leaf
		return c.one
	}
}

func (c *counter[N]) nodesOf(p *phrase) N {
	var sum N
	for _, prod := range p.prods {
		sum = sum.plusTimes(c.one, c.tail(prod, 0, p.from))
	}
	return sum
}

// tail counts in how many ways what stands behind the dot leads from a place to the one at hand.
func (c *counter[N]) tail(prod, dot, at int) N {
	if dot == len(c.right(prod)) {
		return c.one
	}
	spot := (c.front[prod]+dot)*(c.length+1) + at
	if c.tails[spot].isNone() {
		c.tails[spot] = c.waysOf(prod, dot, at)
	}
	return c.tails[spot]
}

func (c *counter[N]) waysOf(prod, dot, at int) N {
	var sum N
	for ends := c.choices(prod, dot, at, c.to); ends != 0; ends = ends.others() {
		kid := c.part(c.right(prod)[dot], at, ends.first())
		sum = sum.plusTimes(c.treesOf(kid), c.tail(prod, dot+1, ends.first()))
	}
	return sum
}
