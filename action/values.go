package action

import (
	"slices"

	"grammarsmith/api"
)

// maxWeight is how much a value on the way may weigh. It is far beyond the document's limits, and makes that what doubles again and again, or lies in itself, comes to an end.
const maxWeight = 1 << 22

// Weighed is a value on the way, with its weight: each value counts one, with those in its list, as often as they stand there, and each byte of a text. Values on the way may share lists: none of them is ever written into.
type Weighed struct {
	api.Value
	weight int
}

// nothing is what stands for a value where kids are not as asked, or too heavy.
func nothing() Weighed {
	return Weighed{weight: 1}
}

func number(n int64) Weighed {
	return Weighed{api.Value{Kind: api.Int, Num: n}, 1}
}

func truth(holds bool) Weighed {
	if holds {
		return number(1)
	}
	return number(0)
}

// bounded gives a value that has a weight, if that is not too much.
func bounded(v api.Value, weight int) Weighed {
	if weight > maxWeight {
		return nothing()
	}
	return Weighed{v, weight}
}

// Weigh: a value with its weight; the zero value, if it is too heavy. It goes through the value only as far as it must to see that.
func Weigh(v api.Value) Weighed {
	weight := 1 + len(v.Text)
	work := [][]api.Value{v.List}
	for len(work) > 0 {
		list := work[len(work)-1]
		work = work[:len(work)-1]
		for _, k := range list {
			weight += 1 + len(k.Text)
			if weight > maxWeight {
				return nothing()
			}
			if len(k.List) > 0 {
				work = append(work, k.List)
			}
		}
	}
	return bounded(v, weight)
}

// Own: the value in memory of its own.
func (w Weighed) Own() api.Value {
	out := []api.Value{w.Value}
	work := [][]api.Value{out}
	for len(work) > 0 {
		list := work[len(work)-1]
		work = work[:len(work)-1]
		for i := range list {
			inner := &list[i].List
			if len(*inner) == 0 {
				*inner = nil
				continue
			}
			*inner = slices.Clone(*inner)
			work = append(work, *inner)
		}
	}
	return out[0]
}

// same says whether two values are the same one.
func same(a, b api.Value) bool {
	work := [][2][]api.Value{{{a}, {b}}}
	for len(work) > 0 {
		some, others := work[len(work)-1][0], work[len(work)-1][1]
		work = work[:len(work)-1]
		for i := range some {
			a, b := &some[i], &others[i]
			if a.Kind != b.Kind || a.Num != b.Num || a.Text != b.Text || len(a.List) != len(b.List) {
				return false
			}
			if len(a.List) > 0 {
				work = append(work, [2][]api.Value{a.List, b.List})
			}
		}
	}
	return true
}
