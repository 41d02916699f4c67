package repair

import "grammarsmith/api"

// leastCost goes through from, terminal by terminal, and knows what it costs to turn what it has gone through into each beginning of to.
func leastCost(c api.Costs, from, to []int) int {
	known := make([]int, len(to)+1)
	for i, t := range to {
		known[i+1] = known[i] + c.Put[t]
	}
	for _, t := range from {
		known = costsBehind(c, known, t, to)
	}
	return known[len(to)]
}

// costsBehind gives the costs behind one terminal more: it is left out, or it stays as the last of a beginning, or the last of the beginning is put in.
func costsBehind(c api.Costs, known []int, next int, to []int) []int {
	out := make([]int, len(known))
	out[0] = known[0] + c.Leave[next]
	for i, t := range to {
		out[i+1] = min(known[i+1]+c.Leave[next], out[i]+c.Put[t])
		if t == next {
			out[i+1] = min(out[i+1], known[i])
		}
	}
	return out
}
