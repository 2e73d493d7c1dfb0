package parse

import (
	"ravelin/api"
	"ravelin/num"
	"ravelin/tree"
)

// exp reads an expression.
func (p *parser) exp() int { return p.chain(1) }

// tightest is the highest rank of an operator with two sides.
const tightest = 6

// chain reads operands with operators of a rank between; chains group from the left.
func (p *parser) chain(rank int) int {
	if rank > tightest {
		return p.prefixed()
	}
	left := p.chain(rank + 1)
	for fixed(p.now()) && p.ranks[p.now().Text] == rank {
		op := p.next()
		right := p.chain(rank + 1)
		switch op.Text {
		case "or":
			left = p.lay(api.NOr, "", op.From, left, right)
		case "and":
			left = p.lay(api.NAnd, "", op.From, left, right)
		default:
			left = p.lay(api.NBin, op.Text, op.From, left, right)
		}
	}
	return left
}

// prefixed reads prefix operators and what stands behind them.
func (p *parser) prefixed() int {
	if !p.is("not") && !p.is("-") && !p.is("#") {
		return p.suffixed()
	}
	op := p.next()
	p.enter(op)
	kid := p.prefixed()
	p.leave()
	return p.lay(api.NUn, op.Text, op.From, kid)
}

// suffixed reads an expression with fields, keys and calls behind it.
func (p *parser) suffixed() int {
	n := p.prim()
	for {
		k := p.now()
		switch {
		case p.take("."):
			n = p.lay(api.NField, p.kind(api.TokName).Text, k.From, n)
		case p.take("["):
			p.enter(k)
			key := p.exp()
			p.want("]")
			p.leave()
			n = p.lay(api.NIndex, "", k.From, n, key)
		case p.is("("):
			kids := append([]int{n}, p.arguments()...)
			n = p.lay(api.NCall, "", k.From, kids...)
		default:
			return n
		}
	}
}

// arguments reads a call's arguments with their brackets.
func (p *parser) arguments() []int {
	p.enter(p.next())
	kids := p.list(p.exp, ")")
	p.leave()
	return kids
}

// prim reads what an expression begins with.
func (p *parser) prim() int {
	k := p.now()
	switch {
	case k.Kind == api.TokInt:
		if k.N < 0 {
			p.syntax(k)
		}
		return p.lay(api.NInt, num.Show(k.N), p.next().From)
	case k.Kind == api.TokStr:
		return p.lay(api.NStr, k.Text, p.next().From)
	case k.Kind == api.TokName:
		return p.name()
	case p.take("nil"):
		return p.lay(api.NNil, "", k.From)
	case p.take("true"), p.take("false"):
		return p.lay(api.NBool, k.Text, k.From)
	case p.take("function"):
		p.enter(k)
		return p.body(k)
	case p.take("("):
		p.enter(k)
		n := p.exp()
		p.want(")")
		p.leave()
		return n
	case p.take("{"):
		return p.table(k)
	}
	p.syntax(k)
	return 0
}

// name reads a variable's name, or a builtin with its arguments.
func (p *parser) name() int {
	k := p.next()
	many := tree.Builtin(k.Text)
	if many < 0 {
		return p.lay(api.NName, k.Text, k.From)
	}
	if !p.is("(") {
		p.syntax(k)
	}
	kids := p.arguments()
	if len(kids) != many || (k.Text == "read" || k.Text == "write") && !p.channelled(kids[0]) {
		p.syntax(k)
	}
	return p.lay(api.NBuiltin, k.Text, k.From, kids...)
}

// channelled tells whether a node is a channel's number.
func (p *parser) channelled(n int) bool {
	node := p.nodes[n]
	return node.Kind == api.NInt && len(node.Text) == 1 && node.Text[0] <= '7'
}

// table reads a table's entries; its bracket is read already.
func (p *parser) table(bracket api.Token) int {
	p.enter(bracket)
	var kids []int
	for !p.take("}") {
		kids = append(kids, p.entry())
		if !p.take(",") && !p.take(";") && !p.is("}") {
			p.syntax(p.now())
		}
	}
	p.leave()
	return p.lay(api.NTable, "", bracket.From, kids...)
}

// entry reads an entry with a name, or one without.
func (p *parser) entry() int {
	k := p.now()
	if k.Kind == api.TokName {
		behind := p.tokens[p.at+1]
		if fixed(behind) && behind.Text == "=" {
			p.at += 2
			return p.lay(api.NNamed, k.Text, k.From, p.exp())
		}
	}
	return p.lay(api.NItem, "", k.From, p.exp())
}
