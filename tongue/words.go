package tongue

import (
	"grammarsmith/api"
	"grammarsmith/phrase"
)

// noPush stands where no mode begins behind a piece.
const noPush = "-"

// isKeyword says of a text that is a name within expressions whether it is none in the tongue.
func isKeyword(word string) bool {
	switch word {
	case "grammar", "tokens", "levels", "rules", "skip", "pop", "push", "left", "right", "none", "list":
		return true
	}
	return false
}

func isName(s string) bool {
	return phrase.IsName(s) && !isKeyword(s)
}

// sideOf gives the word for a side; "": it is none.
func sideOf(side int) string {
	switch side {
	case api.ToLeft:
		return "left"
	case api.ToRight:
		return "right"
	case api.ToNone:
		return "none"
	}
	return ""
}

// kindOf gives the word for a kind of types that is no List; "": it is none.
func kindOf(kind int) string {
	switch kind {
	case api.Int:
		return "int"
	case api.Text:
		return "text"
	case api.Node:
		return "node"
	}
	return ""
}
