package repair

import "grammarsmith/api"

// weight is the cost of a sentence and how many terminals it has, in one number: the lesser goes ahead. The weights of parts are added up.
type weight uint32

const (
	tooLong = api.MaxMended + 1                            // stands for all lengths of more than may be
	perCost = 2*tooLong + 1                                // so that two lengths together never count as a cost
	perTerm = 1                                            // what a terminal weighs beside its cost
	dearest = (api.MaxMended + api.MaxWords) * api.MaxCost // no sentence that may be told costs more
	beyond  = weight(dearest*perCost + tooLong)            // of all that weighs as much or more, and of what can not be at all
	_       = 2 * beyond                                   // two weights have room in one
)

func (w weight) cost() int {
	return int(w / perCost)
}

func (w weight) length() int {
	return int(w % perCost)
}

// isTold: whether a sentence of that weight is not too long.
func (w weight) isTold() bool {
	return w.length() <= api.MaxMended
}

// weightOf is the weight of a cost alone.
func weightOf(cost int) weight {
	return weight(cost * perCost)
}

// settled brings the sum of two weights back to what a weight may be: how much longer than too long does not matter, nor how much dearer than the dearest.
func (w weight) settled() weight {
	if w >= beyond {
		return beyond
	}
	if over := w.length() - tooLong; over > 0 {
		return w - weight(over)
	}
	return w
}
