package scan

import "grammarsmith/api"

// Piece is a token of a text, those of rules with Skip too, or the text's end: with all that must be known if the text is cut anew from there on.
type Piece struct {
	Place          // at which it begins
	Rule, To, Look int
	LeftOut        bool // by Scan: it is of a rule with Skip, or the end
}

// Token: the piece as Next tells it.
func (p Piece) Token() api.Token {
	return api.Token{Rule: p.Rule, From: p.At, To: p.To, Line: p.Line, Col: p.Col}
}

// Cutter cuts one text, at one place after another.
type Cutter struct {
	scanner *Scanner
	text    string
	vain    vainSpots
}

// Cutter: one that cuts a text.
func (x *Scanner) Cutter(s string) *Cutter {
	return &Cutter{x, s, vainSpots{}}
}

// Cut: the piece that begins at a place, and the place behind it.
func (c *Cutter) Cut(p Place) (Piece, Place) {
	if p.Modes == nil {
		p.Modes = modesOf(nil)
	}
	if p.At < 0 || p.At >= len(c.text) {
		p.At = len(c.text)
		return Piece{Place: p, Rule: theEnd, To: p.At, Look: len(c.text) + 1, LeftOut: true}, p
	}
	number := p.Modes.number
	m := c.scanner.mode(number)
	rule, to, last := m.longest(c.text, p.At, c.vain.passBy(number, m, m.walk(c.text, p.At)))
	piece := Piece{Place: p, Rule: rule, To: to, Look: last.looked(len(c.text))}
	piece.LeftOut = rule != noRule && c.scanner.acts[rule].skip
	behind := p.upTo(c.text, to)
	behind.Modes = c.scanner.behind(p.Modes, rule)
	return piece, behind
}
