package points

// pair is what stands below a node of a membership's tree.
type pair struct {
	left, right int
}

// membership tells by one number which sets a point lies in. The sets are the leaves of a tree, and a node's number stands for what the two below it stand for: so a step from one point to the next renumbers one path, not all sets.
type membership struct {
	depth   []int // of each set: how many of its ranges hold
	nodes   []int // the root is 1, below i are 2i and 2i + 1; the leaves are the last half
	numbers map[pair]int
}

func newMembership(sets int) *membership {
	leaves := 1
	for leaves < sets {
		leaves *= 2
	}
	m := &membership{depth: make([]int, sets), nodes: make([]int, 2*leaves), numbers: map[pair]int{}}
	for i := leaves - 1; i > 0; i-- {
		m.renumber(i)
	}
	return m
}

// renumber may give nodes of different heights one number: only those of one height are ever held against each other.
func (m *membership) renumber(i int) {
	p := pair{m.nodes[2*i], m.nodes[2*i+1]}
	n, known := m.numbers[p]
	if !known {
		n = len(m.numbers)
		m.numbers[p] = n
	}
	m.nodes[i] = n
}

// step takes in that so many ranges more of a set hold.
func (m *membership) step(set, by int) {
	m.depth[set] += by
	leaf := len(m.nodes)/2 + set
	m.nodes[leaf] = min(m.depth[set], 1)
	for i := leaf / 2; i > 0; i /= 2 {
		m.renumber(i)
	}
}

// number is the same at two points just if they lie in the same sets.
func (m *membership) number() int {
	return m.nodes[1]
}
