package check

import (
	"ravelin/api"
	"ravelin/relate"
	"ravelin/types"
)

// written tells the type that a node writes.
func (c *checker) written(n int) api.Type {
	t, at, e := types.Of(c.l, n)
	if e != api.OK {
		c.fail(at, e)
	}
	return t
}

// takesNil tells whether nil may stand where a type is.
func takesNil(t api.Type) bool { return relate.Ease(simple(api.TNil), t) }

// block looks at a block's statements.
func (c *checker) block(n int, h here) {
	for _, k := range c.l[n].Kids {
		c.statement(k, h)
	}
}

// statement looks at a statement.
func (c *checker) statement(n int, h here) {
	node := c.l[n]
	kids := node.Kids
	switch node.Kind {
	case api.NLocal:
		c.vars[c.s.Uses[n]] = c.local(n, h)
	case api.NFunction:
		c.outline(kids[0])
		t := c.signature(kids[0])
		c.vars[c.s.Uses[n]] = t
		c.body(kids[0], h, t)
	case api.NAssign:
		c.assign(n, h)
	case api.NDo:
		c.exp(kids[0], h, wanted{})
	case api.NIf:
		c.exp(kids[0], h, wanted{})
		c.block(kids[1], h.with(c.tests(kids[0], true)))
		if c.l[kids[2]].Kind == api.NBlock {
			c.block(kids[2], h.with(c.tests(kids[0], false)))
		}
	case api.NWhile:
		c.exp(kids[0], h, wanted{})
		c.block(kids[1], h.with(c.tests(kids[0], true)))
	case api.NReturn:
		if c.l[kids[0]].Kind != api.NNone {
			c.fits(kids[0], h, h.answer)
		} else if !takesNil(h.answer) {
			c.fail(n, api.ErrFit)
		}
	}
}

// local looks at a local variable, and tells its type.
func (c *checker) local(n int, h here) api.Type {
	kids := c.l[n].Kids
	empty := c.l[kids[1]].Kind == api.NNone
	if c.l[kids[0]].Kind == api.NNone {
		if empty {
			return api.Type{}
		}
		t := c.exp(kids[1], h, wanted{})
		if t.Kind == api.TNil {
			return api.Type{}
		}
		return t
	}
	t := c.written(kids[0])
	if !empty {
		c.fits(kids[1], h, t)
	} else if !takesNil(t) {
		c.fail(n, api.ErrFit)
	}
	return t
}

// assign looks at an assignment: first at its place.
func (c *checker) assign(n int, h here) {
	place, value := c.l[n].Kids[0], c.l[n].Kids[1]
	node := c.l[place]
	if node.Kind == api.NName {
		c.known[place] = c.vars[c.s.Uses[place]]
		c.fits(value, h, c.known[place])
		return
	}
	base := c.exp(node.Kids[0], h, wanted{})
	t, open := c.part(place, base)
	c.known[place] = t
	if node.Kind == api.NIndex {
		c.exp(node.Kids[1], h, wanted{})
	}
	if !open {
		c.fits(value, h, t)
		return
	}
	c.loose = append(c.loose, n)
	c.exp(value, h, some(t))
}

// part tells the type of a field or of what is at a key of a base, and whether the base leaves it open.
func (c *checker) part(n int, base api.Type) (api.Type, bool) {
	switch base.Kind {
	case api.TAny, api.TTable:
		return api.Type{}, true
	case api.TShape:
		if c.l[n].Kind == api.NIndex {
			return api.Type{}, true
		}
		if t, is := named(base, c.l[n].Text); is {
			return t, false
		}
	}
	c.fail(n, api.ErrFit)
	return api.Type{}, false
}

// outline looks whether a function statement's type may be, ahead of all else: what tells no type counts as any for now.
func (c *checker) outline(n int) {
	c.arrow(n, func(k int) api.Type {
		t, _, _ := types.Of(c.l, k)
		return t
	})
}

// signature tells a function's type, of the types that it writes.
func (c *checker) signature(n int) api.Type {
	c.known[n] = c.arrow(n, c.written)
	return c.known[n]
}

// arrow puts a function's type together, which must be one that may be.
func (c *checker) arrow(n int, tell func(int) api.Type) api.Type {
	kids := c.l[n].Kids
	last := len(kids) - 2
	t := arrow()
	for _, k := range kids[:last] {
		t.Args = append(t.Args, tell(c.l[k].Kids[0]))
	}
	t.Args = append(t.Args, tell(kids[last]))
	if !types.Check(t) {
		c.fail(n, api.ErrLong)
	}
	return t
}

// body looks at a function's block.
func (c *checker) body(n int, h here, t api.Type) {
	kids := c.l[n].Kids
	last := len(t.Args) - 1
	for at, k := range kids[:last] {
		c.vars[c.s.Uses[k]] = t.Args[at]
	}
	h.answer = t.Args[last]
	block := kids[len(kids)-1]
	c.block(block, h)
	if !takesNil(h.answer) && !c.ends(block) {
		c.fail(n, api.ErrReturn)
	}
}

// ends is scope.Ends of a block; that one would look through the whole tree for each function.
func (c *checker) ends(n int) bool {
	kids := c.l[n].Kids
	if c.l[n].Kind != api.NBlock || len(kids) == 0 {
		return false
	}
	last := c.l[kids[len(kids)-1]]
	return last.Kind == api.NReturn || last.Kind == api.NIf && c.ends(last.Kids[1]) && c.ends(last.Kids[2])
}
