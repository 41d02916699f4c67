package forest

// maxDigits is how many digits an answer has at most: beyond that nothing is promised.
const maxDigits = 1<<31 - 1

// doublings says how large a number is at least: 1, doubled so often less once; 0 is none.
type doublings int64

// More than pastTelling doublings make more than maxDigits digits: ten make three. From maxDoublings on they are not told apart.
const (
	pastTelling  = maxDigits / 3 * 10
	maxDoublings = 2 * pastTelling
)

func (d doublings) isNone() bool {
	return d == 0
}

// plusTimes: twice the lesser of two numbers is not more than their sum.
func (d doublings) plusTimes(a, b doublings) doublings {
	product := min(a+b-1, maxDoublings)
	if d == 0 {
		return product
	}
	return min(max(d, product, min(d, product)+1), maxDoublings)
}

// isPastTelling: whether the number of trees surely has more digits than an answer. With few names there can be numbers for which no memory has room: then they are not worked out.
func (f *forest) isPastTelling() bool {
	return counted(f, doublings(1)) > pastTelling
}
