package phrase

import "grammarsmith/api"

// MaxName is how many bytes a name may have.
const MaxName = 40

// How tight expressions hold together in a text, the loosest first.
const (
	Anything = iota // let and if, too
	Comparing
	Adding
	Multiplying
	Negating
	Unit
)

// IsPlace: whether $ and a number say a place.
func IsPlace(n int64) bool {
	return n >= 1 && n <= api.MaxRight
}

// IsName: whether a text is a name within expressions.
func IsName(s string) bool {
	if s == "" || len(s) > MaxName || !isSmall(s[0]) || isKeyword(s) || Takes(s) > 0 {
		return false
	}
	for i := range len(s) {
		if !inWord(s[i]) {
			return false
		}
	}
	return true
}

func isSmall(b byte) bool { return b >= 'a' && b <= 'z' }
func isDigit(b byte) bool { return b >= '0' && b <= '9' }
func inWord(b byte) bool  { return isSmall(b) || isDigit(b) || b == '_' }

func isKeyword(s string) bool {
	switch s {
	case "let", "in", "if", "then", "else":
		return true
	}
	return false
}

// Takes: how many kids a function takes; 0: it is none.
func Takes(function string) int {
	switch function {
	case "len", "text", "tag", "kids":
		return 1
	case "int", "node":
		return 2
	case "at":
		return 3
	}
	return 0
}

// LevelOf: how tight an operator holds its kids together; Unit: it is none.
func LevelOf(operator string) int {
	switch operator {
	case "==", "<":
		return Comparing
	case "+", "-", "++":
		return Adding
	case "*", "/", "%":
		return Multiplying
	}
	return Unit
}
