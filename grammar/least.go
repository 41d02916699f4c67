package grammar

import "slices"

// links are, for each name, the names to which it is linked, with how often it is.
type links []map[int]int

func newLinks(names int) links {
	out := make(links, names)
	for n := range out {
		out[n] = map[int]int{}
	}
	return out
}

func (l links) add(from, to int) {
	l[from][to]++
}

// turned gives the links the other way round.
func (l links) turned() links {
	out := newLinks(len(l))
	for from, linked := range l {
		for to := range linked {
			out.add(to, from)
		}
	}
	return out
}

// least finds the least facts that hold of the names. At first there is none; says tells what follows for a name from the facts so far. Since it never takes back what followed from less, a name need be asked anew only when the fact of one has changed on which its own rests. The names wait in rounds: so also a fact that is found to be less and less is the last one after as many rounds as there are names.
func least[F comparable](none F, rests links, says func(facts []F, name int) F) []F {
	facts := slices.Repeat([]F{none}, len(rests))
	resting := rests.turned()
	for asked := firstNumbers(len(rests)); len(asked) > 0; {
		var again []int
		for _, n := range asked {
			fact := says(facts, n)
			if fact == facts[n] {
				continue
			}
			facts[n] = fact
			for other := range resting[n] {
				again = append(again, other)
			}
		}
		slices.Sort(again)
		asked = slices.Compact(again)
	}
	return facts
}

func firstNumbers(count int) []int {
	out := make([]int, count)
	for i := range out {
		out[i] = i
	}
	return out
}
