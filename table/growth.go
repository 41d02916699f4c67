package table

import (
	"iter"

	"grammarsmith/marks"
)

// growth is what is known of the looks of keys, while more and more is told of them.
type growth[K comparable] struct {
	facts   map[K]fact
	waiting []K
}

// fact: waits says that what follows from the looks has not been asked since they grew.
type fact struct {
	looks marks.Set
	waits bool
}

func newGrowth[K comparable]() *growth[K] {
	return &growth[K]{facts: map[K]fact{}}
}

// tell adds looks of a key.
func (g *growth[K]) tell(k K, looks marks.Set) {
	old, met := g.facts[k]
	joined := old.looks.Join(looks)
	if met && joined == old.looks {
		return
	}
	if !old.waits {
		g.waiting = append(g.waiting, k)
	}
	g.facts[k] = fact{joined, true}
}

// all gives the keys with their looks, each again whenever its looks have grown: what follows from them may be told on the way.
func (g *growth[K]) all() iter.Seq2[K, marks.Set] {
	return func(yield func(K, marks.Set) bool) {
		for len(g.waiting) > 0 {
			k := g.waiting[0]
			g.waiting = g.waiting[1:]
			looks := g.facts[k].looks
			g.facts[k] = fact{looks: looks}
			if !yield(k, looks) {
				return
			}
		}
	}
}
