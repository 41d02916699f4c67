package repair

import "grammarsmith/api"

// puts is what things weigh if all of their terminals are put in.
type puts struct {
	terms []weight
	names []weight
	rests []weight
}

func putsOf(r *rules, c api.Costs) *puts {
	p := &puts{}
	for _, cost := range c.Put {
		p.terms = append(p.terms, weightOf(cost)+perTerm)
	}
	p.names = r.putNames(p.terms)
	p.rests = make([]weight, len(r.rests))
	for i, x := range r.rests[firstRest:] {
		p.rests[firstRest+i] = (p.of(x.symbol) + p.rests[x.next]).settled()
	}
	return p
}

func (p *puts) of(symbol int) weight {
	if n, named := nameOf(symbol); named {
		return p.names[n]
	}
	return p.terms[symbol]
}

// putNames finds the names' weights: a production can be had as soon as all of its names can.
func (r *rules) putNames(terms []weight) []weight {
	sums, missing := make([]weight, len(r.prods)), make([]int, len(r.prods))
	var first []offer
	for i, p := range r.prods {
		for _, s := range p.Right {
			if _, named := nameOf(s); named {
				missing[i]++
			} else {
				sums[i] = (sums[i] + terms[s]).settled()
			}
		}
		if missing[i] == 0 {
			first = append(first, offer{p.Left, sums[i]})
		}
	}
	return cheapest(r.names, first, func(found offer, tell func(offer)) {
		for _, i := range r.stands[found.name] {
			sums[i] = (sums[i] + found.weight).settled()
			missing[i]--
			if missing[i] == 0 {
				tell(offer{r.prods[i].Left, sums[i]})
			}
		}
	})
}

// link says that a name stands in a production of a host, and what all beside it weighs, put in.
type link struct {
	host   int
	beside weight
}

// links gives for each name those to its hosts.
func (r *rules) links(p *puts) [][]link {
	out := make([][]link, r.names)
	for _, prod := range r.prods {
		for i, s := range prod.Right {
			if n, named := nameOf(s); named {
				beside := (p.row(prod.Right[:i]) + p.row(prod.Right[i+1:])).settled()
				out[n] = append(out[n], link{prod.Left, beside})
			}
		}
	}
	return out
}

func (p *puts) row(row []int) weight {
	var sum weight
	for _, s := range row {
		sum = (sum + p.of(s)).settled()
	}
	return sum
}
