package action

import (
	"unicode/utf8"

	"grammarsmith/api"
)

// How long the texts of an expression may be.
const (
	maxName = 40
	maxText = 200
)

// How tight expressions hold together in a text, the loosest first.
const (
	anything = iota // let and if, too
	comparing
	adding
	multiplying
	negating
	unit
)

// roomBehind gives how many expressions may still stand behind one, if so many may stand from it on: -1, if it is not valid. It stops there: kids that stand in many places would else be gone through without end.
func roomBehind(e *api.Expr, room int) int {
	if e == nil || room == 0 || !wellMade(e) {
		return -1
	}
	room--
	for _, k := range e.Kids {
		if room = roomBehind(k, room); room < 0 {
			return -1
		}
	}
	return room
}

// wellMade says whether the fields of an expression are as its kind asks; it does not look at the kids.
func wellMade(e *api.Expr) bool {
	kids := len(e.Kids)
	switch e.Kind {
	case api.ENum:
		return e.Num >= 0 && e.Text == "" && kids == 0
	case api.EArg:
		return isPlace(e.Num) && e.Text == "" && kids == 0
	}
	if e.Num != 0 {
		return false
	}
	switch e.Kind {
	case api.EText:
		return len(e.Text) <= maxText && utf8.ValidString(e.Text) && kids == 0
	case api.EName:
		return isName(e.Text) && kids == 0
	case api.ELet:
		return isName(e.Text) && kids == 2
	case api.EIf:
		return e.Text == "" && kids == 3
	case api.EOp:
		return levelOf(e.Text) != unit && kids == 2
	case api.ENeg:
		return e.Text == "" && kids == 1
	case api.EList:
		return e.Text == ""
	case api.ECall:
		return kids > 0 && kids == takes(e.Text)
	}
	return false
}

func isPlace(n int64) bool {
	return n >= 1 && n <= api.MaxRight
}

func isName(s string) bool {
	if s == "" || len(s) > maxName || !isSmall(s[0]) || isKeyword(s) || takes(s) > 0 {
		return false
	}
	for i := range len(s) {
		if !inWord(s[i]) {
			return false
		}
	}
	return true
}

func isSmall(b byte) bool { return b >= 'a' && b <= 'z' }
func isDigit(b byte) bool { return b >= '0' && b <= '9' }
func inWord(b byte) bool  { return isSmall(b) || isDigit(b) || b == '_' }

func isKeyword(s string) bool {
	switch s {
	case "let", "in", "if", "then", "else":
		return true
	}
	return false
}

// takes gives how many kids a function takes; 0: it is none.
func takes(function string) int {
	switch function {
	case "len", "text", "tag", "kids":
		return 1
	case "int", "node":
		return 2
	case "at":
		return 3
	}
	return 0
}

// levelOf gives how tight an operator holds its kids together; unit: it is none.
func levelOf(operator string) int {
	switch operator {
	case "==", "<":
		return comparing
	case "+", "-", "++":
		return adding
	case "*", "/", "%":
		return multiplying
	}
	return unit
}
