package scan

import "grammarsmith/api"

// Modes are the modes that hold at a place: one, and those around it. They are never changed, so that many places may share what is around.
type Modes struct {
	around *Modes // nil: this is the outermost mode
	number int
	depth  int
	sum    uint64 // differs between most modes that are not the same
}

// sumBase is above the numbers of modes.
const sumBase = 2*api.MaxModes + 1

// within gives the modes that hold where a mode begins within others; nil are none.
func (m *Modes) within(number int) *Modes {
	inner := &Modes{around: m, number: number, depth: 1, sum: uint64(number)}
	if m != nil {
		inner.depth += m.depth
		inner.sum += sumBase * m.sum
	}
	return inner
}

// modesOf gives the modes of a list; without any that is mode 0.
func modesOf(list []int) *Modes {
	if len(list) == 0 {
		list = []int{0}
	}
	var m *Modes
	for _, number := range list {
		m = m.within(number)
	}
	return m
}

// list gives the modes as a list, the outermost first.
func (m *Modes) list() []int {
	out := make([]int, m.depth)
	for ; m != nil; m = m.around {
		out[m.depth-1] = m.number
	}
	return out
}

// Same: whether the same modes hold.
func (m *Modes) Same(other *Modes) bool {
	if m == nil || other == nil {
		return m == other
	}
	// So modes that are not the same are hardly ever gone through, however many they are.
	if m.depth != other.depth || m.sum != other.sum {
		return false
	}
	for m != other && m.number == other.number {
		m, other = m.around, other.around
	}
	return m == other
}

// mode gives the mode of a number; that of a number that is none has no rules.
func (x *Scanner) mode(number int) *mode {
	if number < 0 || number >= len(x.modes) {
		return &mode{}
	}
	return &x.modes[number]
}

// behind gives the modes that hold behind a token of a rule.
func (x *Scanner) behind(m *Modes, rule int) *Modes {
	if rule < 0 {
		return m
	}
	a := x.acts[rule]
	if a.pop && m.around != nil {
		m = m.around
	}
	if a.push >= 0 {
		m = m.within(a.push)
	}
	return m
}
