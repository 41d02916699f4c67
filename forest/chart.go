package forest

import "grammarsmith/api"

// chart says of each symbol from which places of the terminals to which ones its trees lead. An item is a production with a dot ahead of one of its symbols, or behind the last one; items have numbers, those of one production one after the other.
type chart struct {
	grammar api.Grammar
	length  int        // how many terminals there are, and so the last place
	behind  []places   // by terminals: the places just behind them
	own     [][]int    // by names: their productions
	front   []int      // by productions: the item with the dot at the front
	starts  [][]places // by places and names: where trees of the name begin that end there
	ends    [][]places // by places and names: where trees of the name end that begin there
	rests   [][]places // by places and items: from where what stands behind the dot leads there
}

// chartOf reads the terminals from left to right: what leads to a place rests on what leads to those ahead of it.
func chartOf(g api.Grammar, in []int) *chart {
	c := emptyChart(g, in)
	r := readerOf(c)
	for to := range c.length + 1 {
		r.readUpTo(to)
	}
	for to, starts := range c.starts {
		for n, at := range starts {
			for ; at != 0; at = at.others() {
				c.ends[at.first()][n] |= placeOf(to)
			}
		}
	}
	return c
}

func emptyChart(g api.Grammar, in []int) *chart {
	c := &chart{grammar: g, length: len(in), behind: make([]places, g.Terms), own: make([][]int, g.Names)}
	for i, t := range in {
		if t >= 0 && t < g.Terms {
			c.behind[t] |= placeOf(i + 1)
		}
	}
	items := 0
	for i, p := range g.Prods {
		c.own[p.Left] = append(c.own[p.Left], i)
		c.front = append(c.front, items)
		items += len(p.Right) + 1
	}
	for range c.length + 1 {
		c.starts = append(c.starts, make([]places, g.Names))
		c.ends = append(c.ends, make([]places, g.Names))
		c.rests = append(c.rests, make([]places, items))
	}
	return c
}

// nameOf gives the name that a symbol is, and whether it is one.
func nameOf(symbol int) (int, bool) {
	return -1 - symbol, symbol < 0
}

func (c *chart) right(prod int) []int {
	return c.grammar.Prods[prod].Right
}

// from gives the places from which what stands behind the dot leads to a place.
func (c *chart) from(prod, dot, to int) places {
	return c.rests[to][c.front[prod]+dot]
}

func (c *chart) isSentence() bool {
	return c.ends[0][c.grammar.Start].has(c.length)
}

// onward gives the places to which a symbol leads from any of some.
func (c *chart) onward(symbol int, at places) places {
	n, named := nameOf(symbol)
	if !named {
		return at << 1 & c.behind[symbol]
	}
	var out places
	for ; at != 0; at = at.others() {
		out |= c.ends[at.first()][n]
	}
	return out
}

// backward gives the places from which a symbol leads to any of some.
func (c *chart) backward(symbol int, at places) places {
	n, named := nameOf(symbol)
	if !named {
		return at & c.behind[symbol] >> 1
	}
	var out places
	for ; at != 0; at = at.others() {
		out |= c.starts[at.first()][n]
	}
	return out
}

// choices gives the places at which the symbol behind the dot can end, if it begins at a place and all that is behind it is to lead to another one.
func (c *chart) choices(prod, dot, at, to int) places {
	return c.onward(c.right(prod)[dot], placeOf(at)) & c.from(prod, dot+1, to)
}
