package phrase

import "grammarsmith/api"

// Source cuts a text into tokens, from left to right.
type Source interface {
	Next() Token
}

// Reader goes through the tokens of a text; Token is the one that comes. What is wrong is thrown.
type Reader struct {
	Token  Token
	source Source
}

// Wrong: the token that comes cannot stand there, or is none.
func (r *Reader) Wrong() {
	Throw(api.ErrSyntax, r.Token.From)
}

// Step goes behind the token that comes, and gives it.
func (r *Reader) Step() Token {
	t := r.Token
	r.Token = r.source.Next()
	return t
}

// Comes: whether a mark comes.
func (r *Reader) Comes(mark string) bool {
	return r.Token.Kind == Mark && r.Token.Text == mark
}

// Take goes behind a mark, if it comes.
func (r *Reader) Take(mark string) bool {
	if !r.Comes(mark) {
		return false
	}
	r.Step()
	return true
}

// Want goes behind a mark, which must come.
func (r *Reader) Want(mark string) {
	if !r.Take(mark) {
		r.Wrong()
	}
}

// NameComes: whether a name comes, be it too long or not.
func (r *Reader) NameComes() bool {
	return r.Token.Kind == Name || r.Token.Kind == LongName
}

// Name goes behind a name, which must come, and gives it.
func (r *Reader) Name() string {
	switch r.Token.Kind {
	case Name:
		return r.Step().Text
	case LongName:
		Throw(api.ErrBound, r.Token.From)
	}
	r.Wrong()
	return ""
}
