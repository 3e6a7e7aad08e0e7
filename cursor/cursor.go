// Package cursor goes through tokens for the parsers of layers 16 and 18. The first error ends parsing, as a panic.
package cursor

import (
	"regrater/api"
	"regrater/lex"
)

// Fault: the token at which it is, and why.
type Fault struct {
	At  int
	Err api.Errno
}

// Cursor that stands at a token, or at the end.
type Cursor struct {
	l  []lex.Token
	At int
}

// New cursor at a token.
func New(l []lex.Token, at int) Cursor {
	return Cursor{l, min(max(at, 0), len(l))}
}

// Catch the first error of a part; without one, its Err is OK.
func Catch(part func()) (f Fault) {
	defer func() {
		switch x := recover().(type) {
		case nil:
		case Fault:
			f = x
		default:
			panic(x)
		}
	}()
	part()
	return Fault{}
}

// Place in a text at which a token begins, or the text's end.
func Place(s string, l []lex.Token, at int) int {
	if at < len(l) {
		return l[at].At
	}
	return len(s)
}

// Fail at the token.
func (c *Cursor) Fail(err api.Errno) { panic(Fault{c.At, err}) }

// Token at the cursor; at the end one of no kind.
func (c *Cursor) Token() lex.Token {
	if c.End() {
		return lex.Token{}
	}
	return c.l[c.At]
}

// End of the tokens?
func (c *Cursor) End() bool { return c.At >= len(c.l) }

func (c *Cursor) is(kind int, s string) bool {
	t := c.Token()
	return t.Kind == kind && t.S == s
}

// IsKey tells whether the token is a keyword.
func (c *Cursor) IsKey(word string) bool { return c.is(lex.Key, word) }

// IsSign tells whether the token is a sign.
func (c *Cursor) IsSign(s string) bool { return c.is(lex.Sign, s) }

func (c *Cursor) pass(ok bool) bool {
	if ok {
		c.At++
	}
	return ok
}

// Key is passed if the token is this keyword.
func (c *Cursor) Key(word string) bool { return c.pass(c.IsKey(word)) }

// Sign is passed if the token is this one.
func (c *Cursor) Sign(s string) bool { return c.pass(c.IsSign(s)) }

// Keys must follow each other.
func (c *Cursor) Keys(words ...string) {
	for _, word := range words {
		c.must(c.Key(word))
	}
}

// Must be this sign.
func (c *Cursor) Must(s string) { c.must(c.Sign(s)) }

func (c *Cursor) must(ok bool) {
	if !ok {
		c.Fail(api.ErrForm)
	}
}

// of tells the token, which must be of a kind, and passes it.
func (c *Cursor) of(kind int) lex.Token {
	t := c.Token()
	c.must(t.Kind == kind)
	c.At++
	return t
}

// Name must be here.
func (c *Cursor) Name() string { return c.of(lex.Name).S }

// Number must be here.
func (c *Cursor) Number() int64 { return c.of(lex.Number).N }

// Names: one, and a second one behind a . (then the first one is the table).
func (c *Cursor) Names() (table, name string) {
	name = c.Name()
	if c.Sign(".") {
		return name, c.Name()
	}
	return "", name
}
