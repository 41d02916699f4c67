package repair

import (
	"slices"

	"grammarsmith/api"
)

// chart says what it weighs at least to turn what stands between two places of the terminals into a sentence of a symbol, or of a rest. A place is how many terminals stand ahead of it.
//
// So that the same edits are come to in one way only, terminals that are left out belong to the one ahead of them that stays, or, if there is none, to no symbol. So what is put in leads from a place to the same one, and what leads on from a place has the terminal there.
type chart struct {
	*rules
	puts   *puts
	links  [][]link
	last   int        // the place behind all terminals
	left   []weight   // by places: of leaving out all terminals ahead
	byTerm [][]weight // by terminals and squares
	byName [][]weight // by names and squares
	byRest [][]weight // by rests and corners
}

// chartOf goes from what stands between fewer terminals to what stands between more.
func chartOf(r *rules, c api.Costs, in []int) *chart {
	f := emptyChart(r, c, in)
	for from := f.last - 1; from >= 0; from-- {
		for to := from + 1; to <= f.last; to++ {
			f.weigh(from, to)
		}
	}
	return f
}

// emptyChart has what terminals weigh, and what is put in.
func emptyChart(r *rules, c api.Costs, in []int) *chart {
	p := putsOf(r, c)
	f := &chart{rules: r, puts: p, links: r.links(p), last: len(in), left: make([]weight, len(in)+1)}
	f.byTerm = f.allPut(p.terms, f.square)
	f.byName = f.allPut(p.names, f.square)
	f.byRest = f.allPut(p.rests, f.corner)
	for i, t := range in {
		f.left[i+1] = f.left[i] + weightOf(c.Leave[t])
	}
	for from, t := range in {
		for to := from + 1; to <= f.last; to++ {
			f.byTerm[t][f.square(from, to)] = perTerm + f.left[to] - f.left[from+1]
		}
	}
	return f
}

// allPut gives for each thing its weight from each place to the same one; nothing leads on as yet.
func (f *chart) allPut(things []weight, number func(from, to int) int) [][]weight {
	var out [][]weight
	for _, w := range things {
		all := slices.Repeat([]weight{beyond}, number(f.last, f.last)+1)
		for at := range f.last + 1 {
			all[number(at, at)] = w
		}
		out = append(out, all)
	}
	return out
}

// square is the number of two places: those with the same first one stand side by side.
func (f *chart) square(from, to int) int {
	return from*(f.last+1) + to
}

// corner is the number of two places of which the first is not behind the second: those with the same second one stand side by side.
func (f *chart) corner(from, to int) int {
	return to*(to+1)/2 + from
}

// ends gives the weights of a symbol that begins at a place, by the places at which it ends.
func (f *chart) ends(symbol, from int) []weight {
	first, last := f.square(from, 0), f.square(from, f.last)
	if n, named := nameOf(symbol); named {
		return f.byName[n][first : last+1]
	}
	return f.byTerm[symbol][first : last+1]
}

// begins gives the weights of a rest that ends at a place, by the places at which it begins.
func (f *chart) begins(i, to int) []weight {
	return f.byRest[i][f.corner(0, to) : f.corner(to, to)+1]
}

// weigh finds the weights between two places that are not the same. At first only as far as no name within has all that stands there: then nothing is asked that is not known. What a name has then, others may have, too, that have it beside what is put in.
func (f *chart) weigh(from, to int) {
	spot := f.corner(from, to)
	for i, x := range f.rests[firstRest:] {
		f.byRest[firstRest+i][spot] = f.parted(x, from, to)
	}
	for n, w := range cheapest(f.names, f.offers(spot), f.tellHosts) {
		f.byName[n][f.square(from, to)] = w
	}
	for i, x := range f.rests[firstRest:] {
		all := &f.byRest[firstRest+i][spot]
		*all = min(*all, f.undivided(x, from, to))
	}
}

// offers gives what names can be had for by the rests that they may become.
func (f *chart) offers(spot int) []offer {
	var out []offer
	for n, own := range f.own {
		for _, i := range own {
			out = append(out, offer{n, f.byRest[i][spot]})
		}
	}
	return out
}

func (f *chart) tellHosts(found offer, tell func(offer)) {
	for _, l := range f.links[found.name] {
		tell(offer{l.host, (found.weight + l.beside).settled()})
	}
}

// parted gives the weight of a rest as far as no name has all that stands between the places: of one that has, nothing is known as yet.
func (f *chart) parted(x rest, from, to int) weight {
	best := beyond
	ends, begins := f.ends(x.symbol, from)[from:to+1], f.begins(x.next, to)[from:]
	for i, w := range ends {
		best = min(best, w+begins[i])
	}
	return best.settled()
}

// undivided gives the weight of a rest of which one symbol has all that stands between the places.
func (f *chart) undivided(x rest, from, to int) weight {
	ends, begins := f.ends(x.symbol, from), f.begins(x.next, to)
	return min(ends[from]+begins[from], ends[to]+begins[to]).settled()
}

// whole gives the weight of a sentence ahead of which all terminals up to a place are left out.
func (f *chart) whole(from int) weight {
	return (f.left[from] + f.ends(-1-f.start, from)[f.last]).settled()
}

// least gives the weight of the nearest sentence.
func (f *chart) least() weight {
	best := beyond
	for from := range f.last + 1 {
		best = min(best, f.whole(from))
	}
	return best
}
