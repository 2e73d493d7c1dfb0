package parse

import (
	"ravelin/api"
	"ravelin/tree"
)

// most is how many brackets, prefix operators and blocks may be open.
const most = 150

// wrong is a place that may not be.
type wrong struct {
	at int
	e  api.Errno
}

// wrongOf tells what is wrong; any other panic goes on.
func wrongOf(r any) wrong {
	w, is := r.(wrong)
	if !is {
		panic(r)
	}
	return w
}

// parser goes through tokens from the front, and lays nodes as their parts end.
type parser struct {
	tokens   []api.Token
	at       int
	nodes    []api.Node
	open     int
	ranks    map[string]int
	channels [8]bool
}

func newParser(tokens []api.Token) *parser {
	return &parser{tokens: tokens, ranks: ranks()}
}

// ranks are the operators' ranks, from the loosest on.
func ranks() map[string]int {
	return map[string]int{
		"or": 1, "and": 2, "==": 3, "~=": 3, "<": 3, "<=": 3, ">": 3, ">=": 3,
		"..": 4, "+": 5, "-": 5, "*": 6, "//": 6, "%": 6,
	}
}

// now is the token that is come to.
func (p *parser) now() api.Token { return p.tokens[p.at] }

// next goes behind the token that is come to; nothing stands behind the last one.
func (p *parser) next() api.Token {
	k := p.now()
	if k.Kind != api.TokEnd {
		p.at++
	}
	return k
}

// fixed tells whether a token is a word or a sign.
func fixed(k api.Token) bool { return k.Kind == api.TokWord || k.Kind == api.TokSign }

// is tells whether a word or sign stands here.
func (p *parser) is(text string) bool { return fixed(p.now()) && p.now().Text == text }

// take goes behind a word or sign, if it stands here.
func (p *parser) take(text string) bool {
	is := p.is(text)
	if is {
		p.at++
	}
	return is
}

// want goes behind a word or sign that must stand here.
func (p *parser) want(text string) {
	if !p.take(text) {
		p.syntax(p.now())
	}
}

// kind goes behind a token of a kind that must stand here.
func (p *parser) kind(kind int) api.Token {
	if p.now().Kind != kind {
		p.syntax(p.now())
	}
	return p.next()
}

// fresh reads the name of a new variable.
func (p *parser) fresh() string {
	k := p.kind(api.TokName)
	if tree.Builtin(k.Text) >= 0 {
		p.syntax(k)
	}
	return k.Text
}

// syntax ends the reading at a token.
func (p *parser) syntax(k api.Token) { panic(wrong{k.From, api.ErrSyntax}) }

// enter notes that one more is open, from a token on.
func (p *parser) enter(k api.Token) {
	p.open++
	if p.open > most {
		panic(wrong{k.From, api.ErrDeep})
	}
}

// leave notes that one less is open.
func (p *parser) leave() { p.open-- }

// lay lays a node and tells its number.
func (p *parser) lay(kind int, text string, at int, kids ...int) int {
	p.nodes = append(p.nodes, api.Node{Kind: kind, Text: text, Kids: kids, At: at})
	return len(p.nodes) - 1
}

// none lays a node for what isn't there.
func (p *parser) none() int { return p.lay(api.NNone, "", 0) }

// maybe reads a part, if the sign ahead of it is there.
func (p *parser) maybe(sign string, part func() int) int {
	if p.take(sign) {
		return part()
	}
	return p.none()
}

// list reads parts with commas between, and the bracket behind them.
func (p *parser) list(part func() int, closing string) []int {
	var kids []int
	if p.take(closing) {
		return nil
	}
	for {
		kids = append(kids, part())
		if p.take(closing) {
			return kids
		}
		p.want(",")
	}
}
