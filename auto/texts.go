package auto

import (
	"slices"

	"grammarsmith/api"
	"grammarsmith/points"
)

// Halves of pairs are points, but no text has them.
const (
	firstHalf = 0xD800
	lastHalf  = 0xDFFF
)

// pair is a state of one thing and a state of another.
type pair struct {
	a, b int
}

// step says how something was come to first: by which point, and from what; nowhere: that is the beginning.
type step struct {
	from, by int
}

// arrival is a pair of states, and how it was come to.
type arrival struct {
	pair
	step
}

// firstText gives the first of the shortest texts that lead to a wanted pair of states. Pairs are met in the order of the first texts that lead to them.
func firstText(a, b api.Auto, wanted func(x, y int) bool) (string, bool) {
	met := []arrival{{pair{start(a), start(b)}, step{from: nowhere}}}
	known := map[pair]int{met[0].pair: 0}
	for i := 0; i < len(met); i++ {
		if wanted(met[i].a, met[i].b) {
			return points.Text(wayTo(i, func(k int) step { return met[k].step })), true
		}
		byBoth(movesOf(a, met[i].a), movesOf(b, met[i].b), func(lo, hi, toA, toB int) {
			p, to := firstWhole(lo), pair{toA, toB}
			if _, old := known[to]; !old && p <= hi {
				known[to] = len(met)
				met = append(met, arrival{to, step{i, p}})
			}
		})
	}
	return "", false
}

// firstWhole is the first point from p on that is no half of a pair.
func firstWhole(p int) int {
	if p >= firstHalf && p <= lastHalf {
		return lastHalf + 1
	}
	return p
}

// wayTo gives the points by which something was come to.
func wayTo(at int, stepOf func(i int) step) []int {
	way := []int{}
	for s := stepOf(at); s.from != nowhere; s = stepOf(s.from) {
		way = append(way, s.by)
	}
	slices.Reverse(way)
	return way
}
