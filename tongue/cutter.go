package tongue

import (
	"strings"
	"unicode/utf8"

	"grammarsmith/phrase"
)

// fence is the sign around patterns.
const fence = "`"

// cutter cuts a text of the tongue: what it does not know itself are tokens of expressions.
type cutter struct {
	phrase.Cutter
}

func newCutter(s string) *cutter {
	return &cutter{phrase.Cutter{Text: s}}
}

// Next cuts the token that comes.
func (c *cutter) Next() phrase.Token {
	c.passBlanks()
	if c.comes(fence) {
		return c.pattern()
	}
	for _, sign := range []string{";", ":", "|", "{", "}"} {
		if c.comes(sign) {
			c.At++
			return phrase.Token{Kind: phrase.Mark, From: c.At - 1, Text: sign}
		}
	}
	t := c.Cutter.Next()
	if t.Kind == phrase.Name {
		t.Kind = kindOfWord(t.Text)
	}
	return t
}

func (c *cutter) comes(sign string) bool {
	return strings.HasPrefix(c.Text[c.At:], sign)
}

// passBlanks goes behind all blanks and comments that come.
func (c *cutter) passBlanks() {
	c.Run(isBlank)
	for c.comes("#") {
		c.Run(inLine)
		c.Run(isBlank)
	}
}

func isBlank(b byte) bool { return b == ' ' || b == '\t' || b == '\n' || b == '\r' }
func inLine(b byte) bool  { return b != '\n' }

// pattern cuts what stands between two fences; it is none, if the second one is missing, or not all between them is code points.
func (c *cutter) pattern() phrase.Token {
	t := phrase.Token{From: c.At}
	between, _, closed := strings.Cut(c.Text[c.At+len(fence):], fence)
	if !closed || !utf8.ValidString(between) {
		return t
	}
	c.At += len(fence) + len(between) + len(fence)
	t.Kind, t.Text = phrase.Pattern, between
	return t
}

// kindOfWord gives what a name of expressions is in the tongue.
func kindOfWord(word string) int {
	switch {
	case isKeyword(word):
		return phrase.Mark
	case len(word) > phrase.MaxName:
		return phrase.LongName
	}
	return phrase.Name
}
