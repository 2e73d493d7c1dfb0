package lex

import (
	"strings"

	"ravelin/api"
)

// wrong is a token that may not be: its place and why.
type wrong struct {
	at int
	e  api.Errno
}

// wrongOf tells what is wrong; any other panic goes on.
func wrongOf(r any) wrong {
	w, is := r.(wrong)
	if !is {
		panic(r)
	}
	return w
}

// scanner goes through a text from the front.
type scanner struct {
	s     string
	at    int
	words map[string]int
	l     []api.Token
}

func newScanner(s string) *scanner {
	c := &scanner{s: s, words: map[string]int{}}
	for n, w := range words {
		c.words[w] = n
	}
	return c
}

// all reads all tokens; each reader tells whether it took something.
func (c *scanner) all() []api.Token {
	readers := []func() bool{c.blank, c.name, c.digits, c.quoted, c.sign}
	for c.at < len(c.s) {
		if !c.one(readers) {
			panic(wrong{c.at, api.ErrToken})
		}
	}
	c.put(api.TokEnd, "", c.at, 0)
	return c.l
}

// one lets the first reader take something that can.
func (c *scanner) one(readers []func() bool) bool {
	for _, read := range readers {
		if read() {
			return true
		}
	}
	return false
}

// put lays a token down that ends at to, and goes there.
func (c *scanner) put(kind int, text string, to int, n int64) {
	c.l = append(c.l, api.Token{Kind: kind, Text: text, From: c.at, To: to, N: n})
	c.at = to
}

// blank takes a blank or a note.
func (c *scanner) blank() bool {
	rest := c.s[c.at:]
	if strings.HasPrefix(rest, "--") {
		end := strings.IndexByte(rest, '\n')
		if end < 0 {
			end = len(rest)
		}
		c.at += end
		return true
	}
	if strings.IndexByte(" \t\n\r", rest[0]) < 0 {
		return false
	}
	c.at++
	return true
}

// name takes a name or a word.
func (c *scanner) name() bool {
	if !letter(c.s[c.at]) {
		return false
	}
	text := run(c.s[c.at:])
	kind := api.TokName
	if _, is := c.words[text]; is {
		kind = api.TokWord
	}
	c.put(kind, text, c.at+len(text), 0)
	return true
}

// digits takes a number, which must be one that may be written.
func (c *scanner) digits() bool {
	if !digit(c.s[c.at]) {
		return false
	}
	text := run(c.s[c.at:])
	n, is := number(text)
	if !is {
		panic(wrong{c.at, api.ErrNumber})
	}
	c.put(api.TokInt, text, c.at+len(text), n)
	return true
}

// quoted takes a string.
func (c *scanner) quoted() bool {
	if c.s[c.at] != '"' {
		return false
	}
	var b strings.Builder
	to := c.at + 1
	for to < len(c.s) && c.s[to] != '"' {
		piece, n := c.piece(to)
		b.WriteByte(piece)
		to += n
	}
	if to >= len(c.s) {
		panic(wrong{c.at, api.ErrQuote})
	}
	c.put(api.TokStr, b.String(), to+1, 0)
	return true
}

// piece tells the byte that is written at a place of a string, and how long it is written.
func (c *scanner) piece(at int) (byte, int) {
	rest := c.s[at:]
	switch {
	case rest[0] < 32 || rest[0] > 126:
	case rest[0] != '\\':
		return rest[0], 1
	case len(rest) < 2:
	case rest[1] == 'n':
		return '\n', 2
	case rest[1] == '\\' || rest[1] == '"':
		return rest[1], 2
	case rest[1] == 'x' && len(rest) >= 4:
		if n, is := number("0x" + rest[2:4]); is {
			return byte(n), 4
		}
	}
	panic(wrong{c.at, api.ErrQuote})
}

// sign takes the longest sign that there is.
func (c *scanner) sign() bool {
	rest := c.s[c.at:]
	for _, text := range [...]string{"==", "~=", "<=", ">=", "//", "..", "->"} {
		if strings.HasPrefix(rest, text) {
			c.put(api.TokSign, text, c.at+2, 0)
			return true
		}
	}
	if strings.IndexByte("+-*%<>=(){}[],:;.#|@", rest[0]) < 0 {
		return false
	}
	c.put(api.TokSign, rest[:1], c.at+1, 0)
	return true
}
