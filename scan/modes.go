package scan

import "slices"

// holding gives the modes that hold, in memory of their own: without any that is mode 0.
func holding(modes []int) []int {
	if len(modes) == 0 {
		return []int{0}
	}
	return slices.Clone(modes)
}

func innermost(modes []int) int {
	return modes[len(modes)-1]
}

// mode gives the mode of a number; that of a number that is none has no rules.
func (x *Scanner) mode(number int) *mode {
	if number < 0 || number >= len(x.modes) {
		return &mode{}
	}
	return &x.modes[number]
}

// behind gives the modes that hold behind a token of a rule; those ahead of it are used up.
func (x *Scanner) behind(modes []int, rule int) []int {
	if rule == noRule {
		return modes
	}
	a := x.acts[rule]
	if a.pop && len(modes) > 1 {
		modes = modes[:len(modes)-1]
	}
	if a.push >= 0 {
		modes = append(modes, a.push)
	}
	return modes
}
