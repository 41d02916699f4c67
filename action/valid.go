package action

import (
	"unicode/utf8"

	"grammarsmith/api"
	"grammarsmith/phrase"
)

// maxText is how many bytes a text within an expression may have.
const maxText = 200

// roomBehind gives how many expressions may still stand behind one, if so many may stand from it on: -1, if it is not valid. It stops there: kids that stand in many places would else be gone through without end.
func roomBehind(e *api.Expr, room int) int {
	if e == nil || room == 0 || !wellMade(e) {
		return -1
	}
	room--
	for _, k := range e.Kids {
		if room = roomBehind(k, room); room < 0 {
			return -1
		}
	}
	return room
}

// wellMade says whether the fields of an expression are as its kind asks; it does not look at the kids.
func wellMade(e *api.Expr) bool {
	kids := len(e.Kids)
	switch e.Kind {
	case api.ENum:
		return e.Num >= 0 && e.Text == "" && kids == 0
	case api.EArg:
		return phrase.IsPlace(e.Num) && e.Text == "" && kids == 0
	}
	if e.Num != 0 {
		return false
	}
	switch e.Kind {
	case api.EText:
		return len(e.Text) <= maxText && utf8.ValidString(e.Text) && kids == 0
	case api.EName:
		return phrase.IsName(e.Text) && kids == 0
	case api.ELet:
		return phrase.IsName(e.Text) && kids == 2
	case api.EIf:
		return e.Text == "" && kids == 3
	case api.EOp:
		return phrase.LevelOf(e.Text) != phrase.Unit && kids == 2
	case api.ENeg:
		return e.Text == "" && kids == 1
	case api.EList:
		return e.Text == ""
	case api.ECall:
		return kids > 0 && kids == phrase.Takes(e.Text)
	}
	return false
}
