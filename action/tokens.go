package action

import (
	"strconv"
	"strings"
	"unicode/utf8"
)

// What a token is.
const (
	noToken = iota // what stands there is none
	aNumber
	aText
	aPlace
	aName
	aMark // a keyword, a function or a sign; at the end of the text the empty one
)

// token is a piece of a text. text is how it is written, of aText what it says.
type token struct {
	kind int
	from int
	text string
	num  int64
}

// cutter cuts a text into tokens, from at on.
type cutter struct {
	text string
	at   int
}

// next cuts the token that comes. Behind what is none nothing is cut any more.
func (c *cutter) next() token {
	c.run(isBlank)
	from := c.at
	t := c.cut()
	t.from = from
	return t
}

func isBlank(b byte) bool { return b == ' ' || b == '\n' }

// run goes behind all bytes of a kind that come, and gives them.
func (c *cutter) run(ofKind func(b byte) bool) string {
	from := c.at
	for c.at < len(c.text) && ofKind(c.text[c.at]) {
		c.at++
	}
	return c.text[from:c.at]
}

func (c *cutter) cut() token {
	if c.at == len(c.text) {
		return token{kind: aMark}
	}
	switch b := c.text[c.at]; {
	case isDigit(b):
		return c.number()
	case isSmall(b):
		return c.word()
	case b == '$':
		return c.place()
	case b == '"':
		return c.quoted()
	}
	return c.sign()
}

func (c *cutter) number() token {
	n, is := numberOf(c.run(isDigit))
	if !is {
		return token{}
	}
	return token{kind: aNumber, num: n}
}

func numberOf(digits string) (int64, bool) {
	if len(digits) > 1 && digits[0] == '0' {
		return 0, false
	}
	n, err := strconv.ParseInt(digits, 10, 64)
	return n, err == nil
}

func (c *cutter) place() token {
	c.at++
	n, is := numberOf(c.run(isDigit))
	if !is || !isPlace(n) {
		return token{}
	}
	return token{kind: aPlace, num: n}
}

// word takes a name that is too long for one, too: it is none that is valid, but it is of the form of one.
func (c *cutter) word() token {
	word := c.run(inWord)
	if isKeyword(word) || takes(word) > 0 {
		return token{kind: aMark, text: word}
	}
	return token{kind: aName, text: word}
}

func (c *cutter) sign() token {
	for _, sign := range []string{"==", "++", "=", "<", "+", "-", "*", "/", "%", "(", ")", "[", "]", ","} {
		if strings.HasPrefix(c.text[c.at:], sign) {
			c.at += len(sign)
			return token{kind: aMark, text: sign}
		}
	}
	return token{}
}

func (c *cutter) quoted() token {
	var said strings.Builder
	for c.at++; c.at < len(c.text); {
		r, size := utf8.DecodeRuneInString(c.text[c.at:])
		c.at += size
		switch {
		case r == '"':
			return token{kind: aText, text: said.String()}
		case r == '\n' || r == utf8.RuneError && size == 1:
			return token{}
		case r == '\\':
			escaped, is := c.escaped()
			if !is {
				return token{}
			}
			said.WriteByte(escaped)
		default:
			said.WriteRune(r)
		}
	}
	return token{}
}

// escaped reads what stands behind a stroke.
func (c *cutter) escaped() (byte, bool) {
	if c.at == len(c.text) {
		return 0, false
	}
	b := c.text[c.at]
	c.at++
	switch b {
	case '"', '\\':
		return b, true
	case 'n':
		return '\n', true
	}
	return 0, false
}
