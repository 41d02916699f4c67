// Package phrase reads texts token by token, and the expressions that stand in them: package action reads them alone, package tongue among what else a grammar's text has.
package phrase

import "grammarsmith/api"

// Read gives what a function reads of a text; it must read all of it. source cuts the text's tokens. What the function throws is the error.
func Read[T any](text string, source Source, read func(r *Reader) T) (said T, err error) {
	defer func() {
		if thrown := recover(); thrown != nil {
			fault, ours := thrown.(*api.Fault)
			if !ours {
				panic(thrown)
			}
			err = fault
		}
	}()
	if len(text) > api.MaxText {
		Throw(api.ErrBound, api.MaxText)
	}
	r := &Reader{source: source}
	r.Step()
	all := read(r)
	r.Want("")
	return all, nil
}

// Throw ends a Read with an error at a place.
func Throw(err error, at int) {
	panic(&api.Fault{Err: err, At: at})
}
