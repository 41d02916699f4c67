package table

import "grammarsmith/marks"

// spot is a name ahead of which an item of a state stands.
type spot struct {
	state, name int
}

// endsOf gives of each state the items that stand at the end of their Right, with all of their looks. These are the looks of the names of the productions in the states in which the productions begin: so it follows each of them through the states, and tells the looks of the names that it meets.
func (r *rules) endsOf(ways [][]int) []items {
	ends := make([]items, len(ways))
	for s := range ends {
		ends[s] = items{}
	}
	spots := newGrowth[spot]()
	follow := func(state, prod int, looks marks.Set) {
		i := item{prod: prod}
		for column, more := r.ahead(i); more; column, more = r.ahead(i) {
			if n, named := r.nameAhead(i); named {
				spots.tell(spot{state, n}, r.behind(i, looks))
			}
			state = ways[state][column]
			i.place++
		}
		ends[state][i] = ends[state][i].Join(looks)
	}
	follow(0, goal, r.end())
	for at, looks := range spots.all() {
		for _, p := range r.own[at.name] {
			follow(at.state, p, looks)
		}
	}
	return ends
}
