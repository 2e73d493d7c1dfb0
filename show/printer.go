package show

import (
	"strings"

	"ravelin/api"
	"ravelin/lex"
)

// ranks are how tightly expressions hold together, by kind; those of NBin hang on the operator.
var ranks = [...]int{
	api.NNil: tightest, api.NBool: tightest, api.NInt: tightest, api.NStr: tightest, api.NName: tightest, api.NField: tightest, api.NIndex: tightest,
	api.NCall: tightest, api.NBuiltin: tightest, api.NFunc: tightest, api.NTable: tightest, api.NUn: 7, api.NAnd: 2, api.NOr: 1,
}

// tightest is the rank of what has no operator.
const tightest = 8

// printer writes a tree down; deep is how many blocks are about the line.
type printer struct {
	l    []api.Node
	text strings.Builder
	deep int
}

// put writes texts one behind the other.
func (p *printer) put(texts ...string) {
	for _, s := range texts {
		p.text.WriteString(s)
	}
}

// begin writes the blanks ahead of a line, and its first texts.
func (p *printer) begin(texts ...string) {
	p.put(strings.Repeat("  ", p.deep))
	p.put(texts...)
}

// rank tells how tightly a node's parts hold together.
func (p *printer) rank(n int) int {
	if p.l[n].Kind != api.NBin {
		return ranks[p.l[n].Kind]
	}
	switch p.l[n].Text {
	case "..":
		return 4
	case "+", "-":
		return 5
	case "*", "//", "%":
		return 6
	}
	return 3
}

// block writes a block's statements, each on lines of its own.
func (p *printer) block(n int) {
	for _, k := range p.l[n].Kids {
		p.begin()
		p.statement(p.l[k])
		p.put("\n")
	}
}

// inner writes a block one deeper, from a new line on.
func (p *printer) inner(n int) {
	p.put("\n")
	p.deep++
	p.block(n)
	p.deep--
}

// statement writes a statement without the blanks ahead of it.
func (p *printer) statement(node api.Node) {
	kids := node.Kids
	switch node.Kind {
	case api.NLocal:
		p.put("local ", node.Text)
		p.maybe(": ", kids[0], p.written)
		p.maybe(" = ", kids[1], p.exp)
	case api.NFunction:
		p.put("function ", node.Text)
		p.function(kids[0])
	case api.NAssign:
		p.exp(kids[0])
		p.put(" = ")
		p.exp(kids[1])
	case api.NDo:
		p.exp(kids[0])
	case api.NIf:
		p.branch(kids)
	case api.NWhile:
		p.put("while ")
		p.exp(kids[0])
		p.put(" do")
		p.inner(kids[1])
		p.begin("end")
	case api.NReturn:
		p.put("return")
		p.maybe(" ", kids[0], p.exp)
	case api.NBreak:
		p.put("break")
	}
}

// branch writes an if.
func (p *printer) branch(kids []int) {
	p.put("if ")
	p.exp(kids[0])
	p.put(" then")
	p.inner(kids[1])
	if p.l[kids[2]].Kind == api.NBlock {
		p.begin("else")
		p.inner(kids[2])
	}
	p.begin("end")
}

// maybe writes a part with its sign ahead, if it is there.
func (p *printer) maybe(sign string, n int, part func(int)) {
	if p.l[n].Kind != api.NNone {
		p.put(sign)
		part(n)
	}
}

// list writes parts between brackets, with commas between.
func (p *printer) list(open string, kids []int, closing string, part func(int)) {
	p.put(open)
	for at, k := range kids {
		if at > 0 {
			p.put(", ")
		}
		part(k)
	}
	p.put(closing)
}

// function writes a function from its parameters on.
func (p *printer) function(n int) {
	kids := p.l[n].Kids
	last := len(kids) - 1
	p.list("(", kids[:last-1], ")", func(k int) {
		p.put(p.l[k].Text)
		p.maybe(": ", p.l[k].Kids[0], p.written)
	})
	p.maybe(": ", kids[last-1], p.written)
	p.inner(kids[last])
	p.begin("end")
}

// exp writes an expression without brackets about it.
func (p *printer) exp(n int) {
	node := p.l[n]
	kids := node.Kids
	switch node.Kind {
	case api.NNil:
		p.put("nil")
	case api.NBool, api.NInt, api.NName:
		p.put(node.Text)
	case api.NStr:
		p.put(lex.Quote(node.Text))
	case api.NField:
		p.base(kids[0])
		p.put(".", node.Text)
	case api.NIndex:
		p.base(kids[0])
		p.list("[", kids[1:], "]", p.exp)
	case api.NCall:
		p.base(kids[0])
		p.list("(", kids[1:], ")", p.exp)
	case api.NBuiltin:
		p.put(node.Text)
		p.list("(", kids, ")", p.exp)
	case api.NFunc:
		p.put("function")
		p.function(n)
	case api.NTable:
		p.list("{", kids, "}", p.entry)
	default:
		p.operator(n)
	}
}

// entry writes an entry of a table.
func (p *printer) entry(n int) {
	if p.l[n].Kind == api.NNamed {
		p.put(p.l[n].Text, " = ")
	}
	p.exp(p.l[n].Kids[0])
}

// operator writes an operator and its sides.
func (p *printer) operator(n int) {
	node := p.l[n]
	rank := p.rank(n)
	switch node.Kind {
	case api.NUn:
		p.put(node.Text)
		kid := p.l[node.Kids[0]]
		// Two - in a row would begin a note.
		if node.Text == "not" || node.Text == "-" && kid.Kind == api.NUn && kid.Text == "-" {
			p.put(" ")
		}
		p.side(node.Kids[0], rank)
		return
	case api.NAnd:
		node.Text = "and"
	case api.NOr:
		node.Text = "or"
	}
	p.side(node.Kids[0], rank)
	p.put(" ", node.Text, " ")
	p.side(node.Kids[1], rank+1)
}

// side writes an operand, in brackets if it holds together less than it must.
func (p *printer) side(n, least int) { p.hold(n, p.rank(n) >= least) }

// base writes what a field, key or call is of.
func (p *printer) base(n int) {
	p.hold(n, p.rank(n) == tightest && p.l[n].Kind != api.NFunc)
}

// hold writes an expression, in brackets if it doesn't hold by itself.
func (p *printer) hold(n int, holds bool) {
	if holds {
		p.exp(n)
		return
	}
	p.put("(")
	p.exp(n)
	p.put(")")
}

// written writes a type.
func (p *printer) written(n int) {
	node := p.l[n]
	kids := node.Kids
	switch node.Kind {
	case api.NTName:
		p.put(node.Text)
	case api.NTShape:
		p.list("{", kids, "}", func(k int) {
			p.put(p.l[k].Text, ": ")
			p.written(p.l[k].Kids[0])
		})
	case api.NTFunc:
		last := len(kids) - 1
		p.list("(", kids[:last], ") -> ", p.written)
		p.written(kids[last])
	case api.NTUnion:
		for at, k := range kids {
			if at > 0 {
				p.put(" | ")
			}
			p.written(k)
		}
	case api.NTBound:
		p.written(kids[0])
		p.put(" @ ", written(node.Text))
	}
}
