package table

import (
	"maps"
	"slices"

	"grammarsmith/api"
	"grammarsmith/marks"
)

// Whether states that are the same but for looks are two, or one.
const (
	looksTellApart = true
	looksAreJoined = false
)

// link stands for a row of items: the number of the row without the last one, and that one with its looks.
type link struct {
	row   int
	last  item
	looks marks.Set
}

// finder numbers states as they are come to.
type finder struct {
	apart   bool
	links   map[link]int // the number of each row
	numbers map[int]int  // the state whose own items are a row
	found   []items      // of each state its own items
}

// waysOf finds the states, and gives of each to which state its columns lead; false, if there are more than MaxTable. Where looks do not tell states apart, those that it goes by are some of the state's, not all.
func (r *rules) waysOf(apart bool) ([][]int, bool) {
	f := finder{apart: apart, links: map[link]int{}, numbers: map[int]int{}}
	f.number(items{item{prod: goal}: r.end()})
	var out [][]int
	for s := 0; s < len(f.found); s++ {
		moved := r.moved(r.closed(f.found[s]))
		f.found[s] = nil
		row := slices.Repeat([]int{nowhere}, r.terms+r.names)
		for _, column := range slices.Sorted(maps.Keys(moved)) {
			row[column] = f.number(moved[column])
		}
		if len(f.found) > api.MaxTable {
			return nil, false
		}
		out = append(out, row)
	}
	return out, true
}

// number gives the number of the state with these items of its own, which is the next one if there is none so far. A state's own items say what the others are.
func (f *finder) number(own items) int {
	row := 0
	for _, i := range slices.SortedFunc(maps.Keys(own), inOrder) {
		l := link{row: row, last: i}
		if f.apart {
			l.looks = own[i]
		}
		row = numberOf(f.links, l, len(f.links)+1)
	}
	s := numberOf(f.numbers, row, len(f.found))
	if s == len(f.found) {
		f.found = append(f.found, own)
	}
	return s
}

// numberOf gives the number of a key, which is the next one if it has none so far.
func numberOf[K comparable](numbers map[K]int, k K, next int) int {
	n, met := numbers[k]
	if !met {
		n = next
		numbers[k] = n
	}
	return n
}
