package live

import (
	"slices"

	"grammarsmith/scan"
)

// replace puts a text in the place of bytes that are there: pieces are cut where they must be, and the tokens behind those kept in front are read anew.
func (x *Live) replace(from, to int, s string) Work {
	text := x.text[:from] + s + x.text[to:]
	front, rest := x.partedAt(from)
	cut, behind := x.recut(text, rest, to)
	x.text, x.pieces = text, append(append(front, cut...), behind...)
	x.reading = x.reading.Of(text, x.Tokens())
	return Work{Cut: len(cut), Kept: len(front) + len(behind) - 1, Shifted: told(cut) + told(behind)}
}

// partedAt parts the pieces: those that are kept whatever stands from a byte on, and the others, of which the end is one. What is put behind the first ones does not run into the others.
func (x *Live) partedAt(from int) (front, rest []scan.Piece) {
	kept := slices.IndexFunc(x.pieces, func(p scan.Piece) bool { return p.Look > from })
	return x.pieces[:kept:kept], x.pieces[kept:]
}

// recut cuts a text from where the first of some pieces began, until one that began at a byte or behind it can be kept; or until the end, which is kept always. It gives what it cut, and what is kept behind that.
func (x *Live) recut(text string, rest []scan.Piece, to int) (cut, behind []scan.Piece) {
	grown := len(text) - len(x.text)
	cutter := x.tool.Scanner().Cutter(text)
	at := rest[0].Place
	for {
		for rest[0].At < to || rest[0].At+grown < at.At {
			rest = rest[1:]
		}
		if rest[0].At+grown == at.At && (at.At == len(text) || rest[0].Modes.Same(at.Modes)) {
			return cut, movedTo(at, rest)
		}
		var p scan.Piece
		p, at = cutter.Cut(at)
		cut = append(cut, p)
	}
}

// movedTo gives pieces as they are where the first one begins at another place.
func movedTo(to scan.Place, l []scan.Piece) []scan.Piece {
	first := l[0].Place
	var out []scan.Piece
	for _, p := range l {
		if p.Line == first.Line {
			p.Col += to.Col - first.Col
		}
		p.Line += to.Line - first.Line
		p.At += to.At - first.At
		p.To += to.At - first.At
		p.Look += to.At - first.At
		out = append(out, p)
	}
	out[0].Modes = to.Modes
	return out
}

// told gives how many pieces are not left out.
func told(l []scan.Piece) int {
	count := 0
	for _, p := range l {
		if !p.LeftOut {
			count++
		}
	}
	return count
}
