package auto

// maxCovered is how many knots a net has at most whose covers are found: each is held against each.
const maxCovered = 1000

// findCovers finds which knots cover which: one covers another if from it, too, each text leads to the end that does from the other. Those are found that can follow step by step.
func (n *net) findCovers() {
	if n.covers != nil || len(n.knots) > maxCovered {
		return
	}
	n.covers = make([][]bool, len(n.knots))
	for p := range n.covers {
		n.covers[p] = make([]bool, len(n.knots))
		for q := range n.covers[p] {
			n.covers[p][q] = n.counts(p) && n.counts(q) && (p != endKnot || q == endKnot)
		}
	}
	for changed := true; changed; {
		changed = false
		for p, by := range n.covers {
			for q, held := range by {
				if held && p != q && !n.canFollow(p, q) {
					by[q], changed = false, true
				}
			}
		}
	}
}

// canFollow says whether q can follow each move of p, as far as is known.
func (n *net) canFollow(p, q int) bool {
	can := true
	byBoth(n.knots[p].moves, n.knots[q].moves, func(_, _, toP, toQ int) {
		if can && toP != nowhere {
			can = toQ != nowhere && n.allCovered(n.all[toP], n.all[toQ])
		}
	})
	return can
}

func (n *net) allCovered(set, by []int) bool {
	for _, p := range set {
		if !n.coveredBy(p, by) {
			return false
		}
	}
	return true
}

func (n *net) coveredBy(p int, by []int) bool {
	for _, q := range by {
		if n.covers[p][q] {
			return true
		}
	}
	return false
}

// pruned leaves out of a set the knots that others of it cover; of those that cover each other it leaves the first.
func (n *net) pruned(set []int) []int {
	if n.covers == nil {
		return set
	}
	var out []int
	for _, p := range set {
		needed := true
		for _, q := range set {
			if p != q && n.covers[p][q] && (q < p || !n.covers[q][p]) {
				needed = false
				break
			}
		}
		if needed {
			out = append(out, p)
		}
	}
	return out
}
