package repair

import "grammarsmith/marks"

// speller finds, of the sentences that weigh what the chart says, the first in order. All of them have one length: so the first ones of the parts make the first one of the whole. It looks only at what may be a part of the nearest sentence.
type speller struct {
	*chart
	*store
	given   string  // the terminals that are mended
	alike   [][]int // by names: itself, and those that stand within beside nothing but empty sentences
	phrases *memory // by names
	kernels *memory // by names
	tails   *memory // by rests
	cores   *memory // by rests
}

// firstSentence gives the first of the nearest sentences, which have that weight.
func firstSentence(f *chart, in []int, least weight) []int {
	spots := f.corner(f.last, f.last) + 1
	s := &speller{chart: f, store: newStore(), given: textOf(in...), alike: f.alikeNames()}
	s.phrases, s.kernels = newMemory(f.names, spots), newMemory(f.names, spots)
	s.tails, s.cores = newMemory(len(f.rests), spots), newMemory(len(f.rests), spots)
	best := ""
	for from := range f.last + 1 {
		if f.whole(from) == least {
			best = firstOf(best, s.phrase(f.start, from, f.last), "")
		}
	}
	return termsOf(best)
}

// alikeNames gives for each name itself, and those whose sentences it has, too, since nothing but the empty sentence stands beside them.
func (f *chart) alikeNames() [][]int {
	out := make([][]int, f.names)
	for n := range out {
		reached := marks.Of(n)
		for waiting := []int{n}; len(waiting) > 0; {
			host := waiting[0]
			waiting = waiting[1:]
			out[host] = append(out[host], n)
			for _, l := range f.links[host] {
				if l.beside == 0 && !reached.Has(l.host) {
					reached = reached.With(l.host)
					waiting = append(waiting, l.host)
				}
			}
		}
	}
	return out
}

// spot is the number of two places. What is put in is the same at each place.
func (s *speller) spot(from, to int) int {
	if from == to {
		return 0
	}
	return s.corner(from, to)
}

// asGiven gives what stands between two places: what costs nothing is just that.
func (s *speller) asGiven(from, to int) string {
	return s.given[from*termBytes : to*termBytes]
}

// head gives the first sentence of a symbol.
func (s *speller) head(symbol, from, to int) string {
	if n, named := nameOf(symbol); named {
		return s.phrase(n, from, to)
	}
	return textOf(symbol)
}

// phrase gives the first sentence of a name.
func (s *speller) phrase(name, from, to int) string {
	want := s.byName[name][s.square(from, to)]
	if want.cost() == 0 {
		return s.asGiven(from, to)
	}
	number := s.phrases.at(name, s.spot(from, to))
	if *number == 0 {
		best := ""
		for _, n := range s.alike[name] {
			if s.byName[n][s.square(from, to)] == want {
				best = firstOf(best, s.kernel(n, want, from, to), "")
			}
		}
		*number = s.number(best)
	}
	return s.texts[*number]
}

// kernel gives the first sentence of a name that weighs so much of which no name within has all; the empty text, if there is none.
func (s *speller) kernel(name int, want weight, from, to int) string {
	number := s.kernels.at(name, s.spot(from, to))
	if *number == 0 {
		best := ""
		for _, i := range s.own[name] {
			for i != nothing && s.begins(i, to)[from] == want {
				best = firstOf(best, s.core(i, from, to), "")
				i = s.behindEmpty(i)
			}
		}
		*number = s.number(best)
	}
	return s.texts[*number]
}

// behindEmpty gives what is left of a rest if its first symbol is empty: nothing, if it can not be.
func (s *speller) behindEmpty(i int) int {
	if i == nothing || s.puts.of(s.rests[i].symbol) != 0 {
		return nothing
	}
	return s.rests[i].next
}

// tail gives the first sentence of a rest.
func (s *speller) tail(i, from, to int) string {
	want := s.begins(i, to)[from]
	if want.cost() == 0 {
		return s.asGiven(from, to)
	}
	number := s.tails.at(i, s.spot(from, to))
	if *number == 0 {
		best, x := s.core(i, from, to), s.rests[i]
		if n, named := nameOf(x.symbol); named && s.ends(x.symbol, from)[to] == want && s.puts.rests[x.next] == 0 {
			best = firstOf(best, s.phrase(n, from, to), "")
		}
		if next := s.behindEmpty(i); next != nothing && s.begins(next, to)[from] == want {
			best = firstOf(best, s.tail(next, from, to), "")
		}
		*number = s.number(best)
	}
	return s.texts[*number]
}

// core gives the first sentence of a rest of which its first symbol has a part, or has all as a terminal; the empty text, if there is none. It is made of what is shorter: so names that have the sentences of one another are not gone round.
func (s *speller) core(i, from, to int) string {
	number := s.cores.at(i, s.spot(from, to))
	if *number == 0 {
		*number = s.number(s.newCore(i, from, to))
	}
	return s.texts[*number]
}

func (s *speller) newCore(i, from, to int) string {
	best, want, x := "", s.begins(i, to)[from], s.rests[i]
	ends, begins := s.ends(x.symbol, from), s.begins(x.next, to)
	_, named := nameOf(x.symbol)
	for at := from; at <= to; at++ {
		if ends[at]+begins[at] != want || ends[at] == 0 || named && begins[at] == 0 {
			continue
		}
		best = firstOf(best, s.head(x.symbol, from, at), s.tail(x.next, at, to))
	}
	return best
}
