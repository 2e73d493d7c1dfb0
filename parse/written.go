package parse

import "ravelin/api"

// bound reads a type, with a mask behind it if there is one.
func (p *parser) bound() int {
	t := p.written()
	k := p.now()
	if !p.take("@") {
		return t
	}
	return p.lay(api.NTBound, p.mask(), k.From, t)
}

// written reads a type.
func (p *parser) written() int {
	if p.is("(") {
		return p.arrow()
	}
	members := []int{p.one()}
	for p.take("|") {
		members = append(members, p.one())
	}
	if len(members) == 1 {
		return members[0]
	}
	return p.lay(api.NTUnion, "", p.nodes[members[0]].At, members...)
}

// arrow reads a function's type; its bracket is open to the end of its answer.
func (p *parser) arrow() int {
	bracket := p.next()
	p.enter(bracket)
	kids := p.list(p.written, ")")
	p.want("->")
	kids = append(kids, p.written())
	p.leave()
	return p.lay(api.NTFunc, "", bracket.From, kids...)
}

// one reads a member of a type.
func (p *parser) one() int {
	k := p.next()
	if fixed(k) && k.Text == "{" {
		return p.shape(k)
	}
	if k.Kind == api.TokName || fixed(k) {
		switch k.Text {
		case "any", "nil", "bool", "int", "string", "table", "thread":
			return p.lay(api.NTName, k.Text, k.From)
		}
	}
	p.syntax(k)
	return 0
}

// shape reads a shape's fields; its bracket is read already.
func (p *parser) shape(bracket api.Token) int {
	p.enter(bracket)
	seen := map[string]int{}
	kids := p.list(func() int { return p.field(seen) }, "}")
	p.leave()
	return p.lay(api.NTShape, "", bracket.From, kids...)
}

// field reads a field that its shape doesn't have yet.
func (p *parser) field(seen map[string]int) int {
	k := p.kind(api.TokName)
	if _, is := seen[k.Text]; is {
		p.syntax(k)
	}
	seen[k.Text] = k.From
	p.want(":")
	return p.lay(api.NTField, k.Text, k.From, p.written())
}
