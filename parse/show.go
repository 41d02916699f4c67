package parse

import (
	"strconv"

	"grammarsmith/api"
)

// shown gives a text with that of a tree behind it.
func shown(text []byte, r *api.Tree) []byte {
	if r == nil {
		return append(text, "()"...)
	}
	if r.Prod < 0 {
		return strconv.AppendInt(text, int64(r.Token), 10)
	}
	text = append(text, '(')
	text = strconv.AppendInt(text, int64(r.Prod), 10)
	for _, kid := range r.Kids {
		text = append(text, ' ')
		text = shown(text, kid)
	}
	return append(text, ')')
}
