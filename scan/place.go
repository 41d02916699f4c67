package scan

// Place is a byte of a text, with its line and column, and the modes that hold there.
type Place struct {
	At, Line, Col int
	Modes         *Modes
}

// Beginning: the place at which texts begin.
func Beginning() Place {
	return Place{Line: 1, Col: 1, Modes: modesOf(nil)}
}

// upTo gives the place of a byte further on, where the same modes hold. It goes over the points of the text, of which the last may end behind that byte.
func (p Place) upTo(s string, at int) Place {
	to := p
	to.At = at
	for i, r := range s[p.At:] {
		if p.At+i >= at {
			break
		}
		to.Col++
		if r == '\n' {
			to.Line, to.Col = to.Line+1, 1
		}
	}
	return to
}
