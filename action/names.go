package action

// named is what a name stands for.
type named[T any] struct {
	name string
	is   T
}

// lookUp gives what a name stands for: of several lets that name it the innermost, the last, counts.
func lookUp[T any](names []named[T], name string) (T, bool) {
	for i := len(names) - 1; i >= 0; i-- {
		if names[i].name == name {
			return names[i].is, true
		}
	}
	var nothing T
	return nothing, false
}
