package auto

import (
	"math/bits"
	"slices"
	"strconv"
	"strings"

	"grammarsmith/api"
)

// maxCounted is how many points the lists have at most that are counted.
const maxCounted = 200

// whole is a number of 0 or more, as large as it becomes: its words of 64 bits, the least first. Without words it is 0.
type whole []uint64

// plus adds another number so many times. It writes into what it is called on, as append does.
func (w whole) plus(other whole, times uint64) whole {
	for len(w) < len(other) {
		w = append(w, 0)
	}
	var carry uint64
	for i, x := range other {
		high, low := bits.Mul64(x, times)
		low, c := bits.Add64(low, carry, 0)
		carry = high + c
		w[i], c = bits.Add64(w[i], low, 0)
		carry += c
	}
	for i := len(other); carry > 0; i++ {
		if i == len(w) {
			w = append(w, 0)
		}
		w[i], carry = bits.Add64(w[i], carry, 0)
	}
	return w
}

// decimals is how many digits are told at once: as many as a word has room for.
const decimals = 18

func (w whole) text() string {
	rest := slices.Clone(w)
	var groups []string
	for len(rest) > 0 {
		var digits uint64
		for i := len(rest) - 1; i >= 0; i-- {
			rest[i], digits = bits.Div64(digits, rest[i], 1e18)
		}
		for len(rest) > 0 && rest[len(rest)-1] == 0 {
			rest = rest[:len(rest)-1]
		}
		group := strconv.FormatUint(digits, 10)
		if len(rest) > 0 {
			group = strings.Repeat("0", decimals-len(group)) + group
		}
		groups = append(groups, group)
	}
	if len(groups) == 0 {
		return "0"
	}
	slices.Reverse(groups)
	return strings.Join(groups, "")
}

// width is by how many points a state leads to another one.
type width struct {
	to    int
	count uint64
}

// widthsOf adds up the moves of each state that lead to the same one.
func widthsOf(a api.Auto) [][]width {
	all := make([][]width, len(a.States))
	for i, s := range a.States {
		at := map[int]int{}
		for _, m := range s.Moves {
			k, known := at[m.To]
			if !known {
				k = len(all[i])
				at[m.To] = k
				all[i] = append(all[i], width{m.To, 0})
			}
			all[i][k].count += uint64(m.Hi - m.Lo + 1)
		}
	}
	return all
}

// byOneRule gives the least automaton that takes what another one takes, all by one rule: with fewer states less is to be counted.
func byOneRule(a api.Auto) api.Auto {
	var out api.Auto
	for _, s := range a.States {
		out.States = append(out.States, api.State{Rule: min(s.Rule, 0), Moves: s.Moves})
	}
	return least(out)
}

// countTaken counts, point by point, how many lists lead to each state.
func countTaken(a api.Auto, n int) whole {
	a = byOneRule(a)
	if len(a.States) == 0 {
		return nil
	}
	widths := widthsOf(a)
	lists := make([]whole, len(a.States))
	lists[0] = whole{1}
	for range n {
		longer := make([]whole, len(lists))
		for i, l := range lists {
			if len(l) == 0 {
				continue
			}
			for _, w := range widths[i] {
				longer[w.to] = longer[w.to].plus(l, w.count)
			}
		}
		lists = longer
	}
	var sum whole
	for i, s := range a.States {
		if s.Rule >= 0 {
			sum = sum.plus(lists[i], 1)
		}
	}
	return sum
}
