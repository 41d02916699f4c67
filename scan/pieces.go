package scan

import "iter"

// pieces goes through the pieces of a text, but for its end.
func (x *Scanner) pieces(s string) iter.Seq[Piece] {
	return func(yield func(Piece) bool) {
		c := x.Cutter(s)
		for p := Beginning(); p.At < len(s); {
			var piece Piece
			piece, p = c.Cut(p)
			if !yield(piece) {
				return
			}
		}
	}
}
