package repair

import "slices"

// offer says that a name has a sentence of a weight.
type offer struct {
	name   int
	weight weight
}

// cheapest finds the least weight of each name from the first offers and those that follow from what is found. Nothing that follows weighs less than that from which it does: so, if the cheapest offer goes first, no better one comes for its name.
func cheapest(names int, first []offer, follow func(found offer, tell func(offer))) []weight {
	least := slices.Repeat([]weight{beyond}, names)
	waiting := heap[offer]{ahead: func(a, b offer) bool { return a.weight < b.weight }}
	tell := func(o offer) {
		if o.weight < least[o.name] {
			least[o.name] = o.weight
			waiting.push(o)
		}
	}
	for _, o := range first {
		tell(o)
	}
	for !waiting.isEmpty() {
		// An offer is out of date where a better one has come since.
		if o := waiting.pop(); o.weight == least[o.name] {
			follow(o, tell)
		}
	}
	return least
}
