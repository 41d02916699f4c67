package action

import (
	"strconv"
	"strings"

	"grammarsmith/api"
	"grammarsmith/phrase"
)

// joined puts texts together.
func joined(parts ...string) string {
	size := 0
	for _, p := range parts {
		size += len(p)
	}
	var b strings.Builder
	b.Grow(size)
	for _, p := range parts {
		b.WriteString(p)
	}
	return b.String()
}

// written gives the text of a valid expression where what is looser than a level stands in brackets.
func written(e *api.Expr, level int) string {
	if tightness(e) < level {
		return joined("(", bare(e), ")")
	}
	return bare(e)
}

func tightness(e *api.Expr) int {
	switch e.Kind {
	case api.ELet, api.EIf:
		return phrase.Anything
	case api.EOp:
		return phrase.LevelOf(e.Text)
	case api.ENeg:
		return phrase.Negating
	}
	return phrase.Unit
}

// bare gives the text of an expression without brackets around it.
func bare(e *api.Expr) string {
	switch e.Kind {
	case api.ENum:
		return strconv.FormatInt(e.Num, 10)
	case api.EText:
		return joined(`"`, escapedText(e.Text), `"`)
	case api.EArg:
		return joined("$", strconv.FormatInt(e.Num, 10))
	case api.ELet:
		return joined("let ", e.Text, " = ", written(e.Kids[0], phrase.Anything), " in ", written(e.Kids[1], phrase.Anything))
	case api.EIf:
		return joined("if ", written(e.Kids[0], phrase.Anything), " then ", written(e.Kids[1], phrase.Anything), " else ", written(e.Kids[2], phrase.Anything))
	case api.EOp:
		return operation(e)
	case api.ENeg:
		return joined("-", written(e.Kids[0], phrase.Negating))
	case api.EList:
		return joined("[", row(e.Kids), "]")
	case api.ECall:
		return joined(e.Text, "(", row(e.Kids), ")")
	}
	return e.Text
}

// operation: what is as tight may stand on the left without brackets, but for those that compare.
func operation(e *api.Expr) string {
	level := phrase.LevelOf(e.Text)
	left := level
	if level == phrase.Comparing {
		left = level + 1
	}
	return joined(written(e.Kids[0], left), " ", e.Text, " ", written(e.Kids[1], level+1))
}

// row gives the texts of all kids, with commas between them.
func row(kids []*api.Expr) string {
	var parts []string
	for i, k := range kids {
		if i > 0 {
			parts = append(parts, ", ")
		}
		parts = append(parts, written(k, phrase.Anything))
	}
	return joined(parts...)
}

func escapedText(s string) string {
	var b strings.Builder
	for i := range len(s) {
		switch s[i] {
		case '"', '\\':
			b.WriteByte('\\')
			b.WriteByte(s[i])
		case '\n':
			b.WriteString(`\n`)
		default:
			b.WriteByte(s[i])
		}
	}
	return b.String()
}
