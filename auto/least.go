package auto

import (
	"cmp"
	"slices"

	"grammarsmith/api"
)

// dead is the block of the states from which nothing is taken.
const dead = -1

// partition is the states in blocks: those of one block are not told apart so far.
type partition struct {
	auto   api.Auto
	into   [][]api.Move // of each state: the moves that lead to it; To is the state that they come from
	block  []int        // of each state
	place  []int        // of each state: where it stands in its block
	blocks [][]int
}

// least gives the least automaton of one that is valid but for the number of its states.
func least(a api.Auto) api.Auto {
	p := &partition{auto: a, into: make([][]api.Move, len(a.States))}
	for i, s := range a.States {
		for _, m := range s.Moves {
			p.into[m.To] = append(p.into[m.To], api.Move{Lo: m.Lo, Hi: m.Hi, To: i})
		}
	}
	p.byRules()
	// The blocks are the worklist too: of one that is split, all parts but a greatest one come to its end. How the states tell that one apart, the others and the whole say.
	for i := 0; i < len(p.blocks); i++ {
		p.splitBy(i)
	}
	return p.joined()
}

// byRules puts the states from which something is taken into a block for each rule.
func (p *partition) byRules() {
	p.block, p.place = make([]int, len(p.into)), make([]int, len(p.into))
	for i := range p.block {
		p.block[i] = dead
	}
	at := map[int]int{}
	for _, i := range p.alive() {
		rule := p.auto.States[i].Rule
		b, known := at[rule]
		if !known {
			b = len(p.blocks)
			at[rule] = b
			p.blocks = append(p.blocks, nil)
		}
		p.put(i, b)
	}
}

// alive gives the states from which something is taken.
func (p *partition) alive() []int {
	var found []int
	met := make([]bool, len(p.into))
	meet := func(i int) {
		if !met[i] {
			met[i] = true
			found = append(found, i)
		}
	}
	for i, s := range p.auto.States {
		if s.Rule >= 0 {
			meet(i)
		}
	}
	for i := 0; i < len(found); i++ {
		for _, m := range p.into[found[i]] {
			meet(m.To)
		}
	}
	return found
}

func (p *partition) put(state, block int) {
	p.block[state], p.place[state] = block, len(p.blocks[block])
	p.blocks[block] = append(p.blocks[block], state)
}

// takeOut takes a state out of its block; the last one of the block goes to its place.
func (p *partition) takeOut(state int) {
	l := p.blocks[p.block[state]]
	last := l[len(l)-1]
	l[p.place[state]], p.place[last] = last, p.place[state]
	p.blocks[p.block[state]] = l[:len(l)-1]
}

// mark tells states apart: the block in which they were, and the points by which they lead into another one, as a text.
type mark struct {
	block  int
	points string
}

// splitBy tells the states apart by which points they lead into a block.
func (p *partition) splitBy(b int) {
	var l []api.Move
	for _, i := range p.blocks[b] {
		l = append(l, p.into[i]...)
	}
	slices.SortFunc(l, func(x, y api.Move) int { return cmp.Or(cmp.Compare(x.To, y.To), cmp.Compare(x.Lo, y.Lo)) })
	at := map[mark]int{}
	var groups [][]int
	for len(l) > 0 {
		n := 1
		for n < len(l) && l[n].To == l[0].To {
			n++
		}
		m := mark{p.block[l[0].To], pointsText(l[:n])}
		g, known := at[m]
		if !known {
			g = len(groups)
			at[m] = g
			groups = append(groups, nil)
		}
		groups[g] = append(groups[g], l[0].To)
		l = l[n:]
	}
	p.part(groups)
}

// pointsText is the same for two lists of moves just if they have the same points.
func pointsText(moves []api.Move) string {
	var text []byte
	for i := 0; i < len(moves); {
		lo, hi := moves[i].Lo, moves[i].Hi
		for i++; i < len(moves) && moves[i].Lo == hi+1; i++ {
			hi = moves[i].Hi
		}
		text = appendNumber(appendNumber(text, lo), hi)
	}
	return string(text)
}

// part makes a block of each group of states, and of what is left of the blocks that they were in. The greatest part of a block keeps its number: so a state comes into a new block no more often than a block can be halved.
func (p *partition) part(groups [][]int) {
	for _, g := range groups {
		for _, i := range g {
			p.takeOut(i)
		}
	}
	for _, g := range groups {
		b := p.block[g[0]]
		if rest := p.blocks[b]; len(g) > len(rest) {
			p.fill(b, g)
			g = rest
		}
		if len(g) > 0 {
			p.blocks = append(p.blocks, nil)
			p.fill(len(p.blocks)-1, g)
		}
	}
}

func (p *partition) fill(block int, states []int) {
	p.blocks[block] = states
	for place, i := range states {
		p.block[i], p.place[i] = block, place
	}
}

// joined gives the automaton whose states are the blocks, in the order in which they are come to.
func (p *partition) joined() api.Auto {
	var out api.Auto
	if len(p.block) == 0 || p.block[0] == dead {
		return out
	}
	order := []int{p.block[0]}
	number := map[int]int{p.block[0]: 0}
	for i := 0; i < len(order); i++ {
		first := p.auto.States[p.blocks[order[i]][0]]
		s := api.State{Rule: first.Rule}
		for _, m := range first.Moves {
			b := p.block[m.To]
			if b == dead {
				continue
			}
			n, known := number[b]
			if !known {
				n = len(order)
				number[b] = n
				order = append(order, b)
			}
			s.Moves = extend(s.Moves, api.Move{Lo: m.Lo, Hi: m.Hi, To: n})
		}
		out.States = append(out.States, s)
	}
	return out
}
