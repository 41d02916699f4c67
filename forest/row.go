package forest

// row goes through the kids that nodes with one production can have, in order: the last kid changes first.
type row struct {
	*frame
	telling *telling
	kids    []choice
	begun   bool
}

// choice is one kid, as far as it is chosen.
type choice struct {
	at     int    // where it begins
	ends   places // where it can end: the first is the one at hand
	teller teller // of the trees with that end; nil: not yet asked for
	number int    // how many of them were taken
	tree   *draft
}

func (t *telling) rowOf(prod int) *row {
	r := &row{frame: t.frameOf(t.host, prod, t.free), telling: t}
	r.kids = make([]choice, len(r.right(prod)))
	return r
}

// next finds the next kids, and answers false where there are no more.
func (r *row) next() bool {
	dot := len(r.kids) - 1
	if !r.begun {
		r.begun = true
		dot = 0
		r.begin(0)
	}
	for dot >= 0 && dot < len(r.kids) {
		if r.advance(dot) {
			dot++
			r.begin(dot)
		} else {
			dot--
		}
	}
	return dot >= 0
}

// begin has all of a kid's choices ahead, behind the kid that stands ahead of it.
func (r *row) begin(dot int) {
	if dot == len(r.kids) {
		return
	}
	at := r.host.from
	if dot > 0 {
		at = r.kids[dot-1].ends.first()
	}
	r.kids[dot] = choice{at: at, ends: r.kidEnds(dot, at)}
}

// advance takes a kid's next tree: those of fewer leaves go first.
func (r *row) advance(dot int) bool {
	c := &r.kids[dot]
	for c.ends != 0 {
		if c.teller == nil {
			c.teller = r.part(r.right(r.prod)[dot], c.at, c.ends.first()).tellerIn(r.telling)
		}
		c.tree = c.teller.tree(c.number)
		if c.tree != nil {
			c.number++
			return true
		}
		c.ends, c.teller, c.number = c.ends.others(), nil, 0
	}
	return false
}

func (r *row) draft() *draft {
	var kids []*draft
	for _, c := range r.kids {
		kids = append(kids, c.tree)
	}
	return nodeOf(r.prod, kids)
}
