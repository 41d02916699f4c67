package scan

import "grammarsmith/api"

// place is a byte of a text, with its line and column.
type place struct {
	at, line, col int
}

func firstPlace() place {
	return place{line: 1, col: 1}
}

// upTo gives the place of a byte further on. It goes over the points of the text, of which the last may end behind that byte.
func (p place) upTo(s string, at int) place {
	to := place{at, p.line, p.col}
	for i, r := range s[p.at:] {
		if p.at+i >= at {
			break
		}
		to.col++
		if r == '\n' {
			to.line, to.col = to.line+1, 1
		}
	}
	return to
}

func (p place) token(rule, to int) api.Token {
	return api.Token{Rule: rule, From: p.at, To: to, Line: p.line, Col: p.col}
}
