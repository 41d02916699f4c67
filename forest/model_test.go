package forest_test

import (
	"errors"
	"math/big"
	"slices"
	"strconv"
	"strings"

	"grammarsmith/api"
	"grammarsmith/parse"
)

// The model goes by the chapter's words, and makes no chart. Plain trees are made one by one, of all productions and of all ways to part the leaves among the kids, where no name stands within itself with the same leaves; then they are sorted. All trees, plain or not, are counted by their height.

// stretch is a symbol with the leaves from one place to another.
type stretch struct{ symbol, from, to int }

// heights counts trees of at most some height. Where there is no end of trees, the numbers grow faster than there is room for them: they are told by what is left of them by a great prime.
type heights struct {
	g     api.Grammar
	in    []int
	trees map[stretch]uint64
}

const prime = 4294967291 // less than 1<<32, so that products have room

func (h *heights) of(symbol, from, to int) uint64 {
	if symbol >= 0 {
		if to == from+1 && h.in[from] == symbol {
			return 1
		}
		return 0
	}
	return h.trees[stretch{symbol, from, to}]
}

// rows counts the ways to make a row of symbols of the leaves.
func (h *heights) rows(row []int, from, to int) uint64 {
	ways := map[int]uint64{from: 1}
	for _, s := range row {
		next := map[int]uint64{}
		for at, n := range ways {
			for end := at; end <= to; end++ {
				if k := h.of(s, at, end); k > 0 {
					next[end] = (next[end] + n*k) % prime
				}
			}
		}
		ways = next
	}
	return ways[to]
}

// grow counts trees that are higher by one.
func (h *heights) grow() {
	next := map[stretch]uint64{}
	for from := 0; from <= len(h.in); from++ {
		for to := from; to <= len(h.in); to++ {
			for _, p := range h.g.Prods {
				if n := h.rows(p.Right, from, to); n > 0 {
					s := stretch{-1 - p.Left, from, to}
					next[s] = (next[s] + n) % prime
				}
			}
		}
	}
	h.trees = next
}

// modelCount counts all trees. As long as no name stands within itself with the same leaves, no tree is higher than all names for each number of leaves; where one does, trees grow by less than that at a time, and there are new ones of each such height.
func modelCount(g api.Grammar, in []int) (left uint64, endless bool) {
	h, most := &heights{g: g, in: in}, g.Names*(len(in)+1)+1
	for range most {
		h.grow()
	}
	left = h.of(-1-g.Start, 0, len(in))
	for range most {
		h.grow()
		endless = endless || h.of(-1-g.Start, 0, len(in)) != left
	}
	return left, endless
}

// leftBy is what is left of a number by the prime.
func leftBy(text string) (uint64, bool) {
	n, is := new(big.Int).SetString(text, 10)
	if !is || n.Sign() < 0 || n.String() != text {
		return 0, false
	}
	return n.Mod(n, big.NewInt(prime)).Uint64(), true
}

// errTooMany: there is more to be done than a test has time for.
var errTooMany = errors.New("too many")

// maxSteps is for how much a test has time.
const maxSteps = 20000

// maker makes plain trees.
type maker struct {
	can   *heights // says where there are trees at all
	steps int
	known map[string][]*api.Tree
}

// trees gives all plain trees of a symbol; above are the names of the nodes with the same leaves in which it stands. It panics with errTooMany.
func (m *maker) trees(symbol, from, to int, above []int) []*api.Tree {
	if symbol >= 0 {
		return []*api.Tree{{Prod: -1, Token: from}}
	}
	n := -1 - symbol
	if slices.Contains(above, n) {
		return nil
	}
	above = slices.Sorted(slices.Values(append(slices.Clone(above), n)))
	key := strings.Join([]string{strconv.Itoa(n), strconv.Itoa(from), strconv.Itoa(to), numbers(above)}, ":")
	if known, is := m.known[key]; is {
		return known
	}
	var out []*api.Tree
	for i, p := range m.can.g.Prods {
		if p.Left == n {
			for _, kids := range m.rows(p.Right, stretch{symbol, from, to}, from, above) {
				out = append(out, &api.Tree{Prod: i, Kids: kids})
			}
		}
	}
	m.known[key] = out
	return out
}

// rows gives all kids that stand for a row of symbols, from a place to the end of the node.
func (m *maker) rows(row []int, node stretch, at int, above []int) [][]*api.Tree {
	if m.steps++; m.steps > maxSteps {
		panic(errTooMany)
	}
	if len(row) == 0 {
		if at == node.to {
			return [][]*api.Tree{nil}
		}
		return nil
	}
	var out [][]*api.Tree
	for end := at; end <= node.to; end++ {
		if m.can.of(row[0], at, end) == 0 {
			continue
		}
		var names []int
		if at == node.from && end == node.to {
			names = above
		}
		rests := m.rows(row[1:], node, end, above)
		if len(rests) == 0 {
			continue
		}
		for _, k := range m.trees(row[0], at, end, names) {
			for _, rest := range rests {
				m.steps++
				out = append(out, append([]*api.Tree{k}, rest...))
			}
		}
	}
	return out
}

// modelTrees gives the plain trees in order, as Show tells them; false: there are too many.
func modelTrees(g api.Grammar, in []int) (plain []string, done bool) {
	defer func() {
		if r := recover(); r == errTooMany {
			plain, done = nil, false
		} else if r != nil {
			panic(r)
		}
	}()
	can := &heights{g: g, in: in}
	for range g.Names*(len(in)+1) + 1 {
		can.grow()
	}
	if can.of(-1-g.Start, 0, len(in)) == 0 {
		return nil, true
	}
	m := &maker{can: can, known: map[string][]*api.Tree{}}
	trees := m.trees(-1-g.Start, 0, len(in), nil)
	slices.SortFunc(trees, compareTrees)
	for _, r := range trees {
		plain = append(plain, parse.Show(r))
	}
	return plain, true
}

// compareTrees is the chapter's order.
func compareTrees(a, b *api.Tree) int {
	if a.Prod != b.Prod {
		return a.Prod - b.Prod
	}
	for i := range a.Kids {
		x, y := a.Kids[i], b.Kids[i]
		if parse.Show(x) == parse.Show(y) {
			continue
		}
		if countLeaves(x) != countLeaves(y) {
			return countLeaves(x) - countLeaves(y)
		}
		return compareTrees(x, y)
	}
	return 0
}

func countLeaves(r *api.Tree) int {
	if r.Prod < 0 {
		return 1
	}
	sum := 0
	for _, k := range r.Kids {
		sum += countLeaves(k)
	}
	return sum
}

// modelBegins reads sentences by a machine that remembers how far they go with the terminals, and the terminal behind them. Its states: how many were read; then, behind all, which terminal came; then one in which the sentence is another.
func modelBegins(g api.Grammar, in []int) []int {
	other := len(in) + g.Terms + 1
	step := func(state, term int) int {
		switch {
		case state == len(in):
			return state + 1 + term
		case state > len(in):
			return state
		case in[state] == term:
			return state + 1
		}
		return other
	}
	ways := map[stretch]bool{} // by which the sentences of names lead
	for grown := true; grown; {
		grown = false
		for _, p := range g.Prods {
			for from := range other + 1 {
				at := map[int]bool{from: true}
				for _, s := range p.Right {
					next := map[int]bool{}
					for to := range other + 1 {
						for state := range at {
							if s < 0 && ways[stretch{s, state, to}] || s >= 0 && step(state, s) == to {
								next[to] = true
							}
						}
					}
					at = next
				}
				for to := range at {
					if w := (stretch{-1 - p.Left, from, to}); !ways[w] {
						ways[w], grown = true, true
					}
				}
			}
		}
	}
	var out []int
	for term := range g.Terms {
		if ways[stretch{-1 - g.Start, 0, len(in) + 1 + term}] {
			out = append(out, term)
		}
	}
	if ways[stretch{-1 - g.Start, 0, len(in)}] {
		out = append(out, g.Terms)
	}
	return out
}
