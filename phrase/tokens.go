package phrase

import (
	"strconv"
	"strings"
	"unicode/utf8"

	"grammarsmith/api"
)

// What a token is.
const (
	None = iota // what stands there is none
	Number
	Text
	Place
	Name
	LongName // a name that is too long to be one
	Mark     // a keyword, a function or a sign; at the end of the text the empty one
	Pattern
)

// Token is a piece of a text. Text is how it is written, of a Text or a Pattern what stands between the signs around it.
type Token struct {
	Kind int
	From int
	Text string
	Num  int64
}

// Leaf: the expression that a token is alone; nil, if it is none.
func (t Token) Leaf() *api.Expr {
	switch t.Kind {
	case Number:
		return &api.Expr{Kind: api.ENum, Num: t.Num}
	case Text:
		return &api.Expr{Kind: api.EText, Text: t.Text}
	case Place:
		return &api.Expr{Kind: api.EArg, Num: t.Num}
	case Name:
		return &api.Expr{Kind: api.EName, Text: t.Text}
	}
	return nil
}

// TokenOf: the token that a text is as a whole; its Kind is None, if the text is none, or more.
func TokenOf(s string) Token {
	c := &Cutter{Text: s}
	t := c.Next()
	if t.From > 0 || c.At < len(s) {
		return Token{}
	}
	return t
}

// Cutter cuts an expression's text into tokens, from At on.
type Cutter struct {
	Text string
	At   int
}

// Next cuts the token that comes. Behind what is none nothing is cut any more. A name that is too long is a Name, too: it is none that is valid, but it is of the form of one.
func (c *Cutter) Next() Token {
	c.Run(isBlank)
	from := c.At
	t := c.cut()
	t.From = from
	return t
}

func isBlank(b byte) bool { return b == ' ' || b == '\n' }

// Run goes behind all bytes of a kind that come, and gives them.
func (c *Cutter) Run(ofKind func(b byte) bool) string {
	from := c.At
	for c.At < len(c.Text) && ofKind(c.Text[c.At]) {
		c.At++
	}
	return c.Text[from:c.At]
}

func (c *Cutter) cut() Token {
	if c.At == len(c.Text) {
		return Token{Kind: Mark}
	}
	switch b := c.Text[c.At]; {
	case isDigit(b):
		return c.number()
	case isSmall(b):
		return c.word()
	case b == '$':
		return c.place()
	case b == '"':
		return c.quoted()
	}
	return c.sign()
}

func (c *Cutter) number() Token {
	n, is := numberOf(c.Run(isDigit))
	if !is {
		return Token{}
	}
	return Token{Kind: Number, Num: n}
}

func numberOf(digits string) (int64, bool) {
	if len(digits) > 1 && digits[0] == '0' {
		return 0, false
	}
	n, err := strconv.ParseInt(digits, 10, 64)
	return n, err == nil
}

func (c *Cutter) place() Token {
	c.At++
	n, is := numberOf(c.Run(isDigit))
	if !is || !IsPlace(n) {
		return Token{}
	}
	return Token{Kind: Place, Num: n}
}

func (c *Cutter) word() Token {
	word := c.Run(inWord)
	if isKeyword(word) || Takes(word) > 0 {
		return Token{Kind: Mark, Text: word}
	}
	return Token{Kind: Name, Text: word}
}

func (c *Cutter) sign() Token {
	for _, sign := range []string{"==", "++", "=", "<", "+", "-", "*", "/", "%", "(", ")", "[", "]", ","} {
		if strings.HasPrefix(c.Text[c.At:], sign) {
			c.At += len(sign)
			return Token{Kind: Mark, Text: sign}
		}
	}
	return Token{}
}

func (c *Cutter) quoted() Token {
	var said strings.Builder
	for c.At++; c.At < len(c.Text); {
		r, size := utf8.DecodeRuneInString(c.Text[c.At:])
		c.At += size
		switch {
		case r == '"':
			return Token{Kind: Text, Text: said.String()}
		case r == '\n' || r == utf8.RuneError && size == 1:
			return Token{}
		case r == '\\':
			escaped, is := c.escaped()
			if !is {
				return Token{}
			}
			said.WriteByte(escaped)
		default:
			said.WriteRune(r)
		}
	}
	return Token{}
}

// escaped reads what stands behind a stroke.
func (c *Cutter) escaped() (byte, bool) {
	if c.At == len(c.Text) {
		return 0, false
	}
	b := c.Text[c.At]
	c.At++
	switch b {
	case '"', '\\':
		return b, true
	case 'n':
		return '\n', true
	}
	return 0, false
}
