package check

import (
	"slices"

	"ravelin/api"
	"ravelin/narrow"
	"ravelin/relate"
)

// Kinds of values, bit by bit: those that may be false, and all but Nil.
const (
	falsy = 1<<api.Nil | 1<<api.Bool
	solid = 127 &^ (1 << api.Nil)
)

// fits looks at an expression that must fit a type; it gets a cast, if it isn't one of that type as it is.
func (c *checker) fits(n int, h here, to api.Type) {
	from := c.exp(n, h, some(to))
	switch {
	case relate.Sub(from, to):
	case relate.Ease(from, to):
		c.casts = append(c.casts, api.Cast{Node: n, From: from, To: to, Side: relate.Side(from, to)})
	default:
		c.fail(n, api.ErrFit)
	}
}

// exp looks at an expression, and notes its type.
func (c *checker) exp(n int, h here, w wanted) api.Type {
	t := c.look(n, h, w)
	c.known[n] = t
	return t
}

// look tells the type of an expression.
func (c *checker) look(n int, h here, w wanted) api.Type {
	node := c.l[n]
	kids := node.Kids
	switch node.Kind {
	case api.NBool:
		return simple(api.TBool)
	case api.NInt:
		return simple(api.TInt)
	case api.NStr:
		return simple(api.TStr)
	case api.NName:
		return narrow.All(c.vars[c.s.Uses[n]], c.s.Uses[n], h.tests)
	case api.NFunc:
		t := c.signature(n)
		c.body(n, h, t)
		return t
	case api.NField, api.NIndex:
		t, _ := c.part(n, c.exp(kids[0], h, wanted{}))
		if node.Kind == api.NIndex {
			c.exp(kids[1], h, wanted{})
		}
		return t
	case api.NCall:
		return c.call(n, h)
	case api.NBuiltin:
		return c.builtin(n, h)
	case api.NTable:
		return c.table(n, h, w)
	case api.NBin:
		return c.binary(n, h)
	case api.NUn:
		return c.unary(n, h)
	case api.NAnd:
		left := c.exp(kids[0], h, wanted{})
		right := c.exp(kids[1], h.with(c.tests(kids[0], true)), wanted{})
		return relate.Join(narrow.Type(left, falsy), right)
	case api.NOr:
		left := c.exp(kids[0], h, wanted{})
		right := c.exp(kids[1], h.with(c.tests(kids[0], false)), wanted{})
		return relate.Join(narrow.Type(left, solid), right)
	}
	return simple(api.TNil)
}

// named tells the type of a shape's field.
func named(shape api.Type, name string) (api.Type, bool) {
	at, is := slices.BinarySearch(shape.Names, name)
	if !is {
		return api.Type{}, false
	}
	return shape.Args[at], true
}

// call looks at a call.
func (c *checker) call(n int, h here) api.Type {
	kids := c.l[n].Kids
	base := c.exp(kids[0], h, wanted{})
	switch {
	case base.Kind == api.TAny:
		c.loose = append(c.loose, n)
		for _, k := range kids[1:] {
			c.exp(k, h, some(api.Type{}))
		}
		return api.Type{}
	case base.Kind != api.TFunc || len(base.Args) != len(kids):
		c.fail(n, api.ErrFit)
	}
	for at, k := range kids[1:] {
		c.fits(k, h, base.Args[at])
	}
	return base.Args[len(base.Args)-1]
}

// builtin looks at a builtin's call.
func (c *checker) builtin(n int, h here) api.Type {
	node := c.l[n]
	t := c.builtins[node.Text]
	if node.Text == "pcall" || node.Text == "resume" {
		c.loose = append(c.loose, n)
	}
	for at, k := range node.Kids {
		c.fits(k, h, t.Args[at])
	}
	return t.Args[len(t.Args)-1]
}

// table looks at a table's entries: it is a record, if all have names and nothing but a shape is wanted.
func (c *checker) table(n int, h here, w wanted) api.Type {
	kids := c.l[n].Kids
	if len(kids) == 0 || w.is && w.t.Kind != api.TShape || !c.unlike(kids) {
		for _, k := range kids {
			c.exp(c.l[k].Kids[0], h, wanted{})
		}
		return simple(api.TTable)
	}
	byName := map[string]api.Type{}
	t := api.Type{Kind: api.TShape}
	for _, k := range kids {
		name := c.l[k].Text
		byName[name] = c.entry(k, h, w)
		t.Names = append(t.Names, name)
	}
	slices.Sort(t.Names)
	for _, name := range t.Names {
		t.Args = append(t.Args, byName[name])
	}
	return t
}

// unlike tells whether all entries have names, no two the same.
func (c *checker) unlike(kids []int) bool {
	seen := map[string]int{}
	for _, k := range kids {
		_, is := seen[c.l[k].Text]
		if is || c.l[k].Kind != api.NNamed {
			return false
		}
		seen[c.l[k].Text] = k
	}
	return true
}

// entry looks at a record's entry: its type is the wanted field's, or its expression's made flat.
func (c *checker) entry(n int, h here, w wanted) api.Type {
	kid := c.l[n].Kids[0]
	if t, is := named(w.t, c.l[n].Text); is {
		c.fits(kid, h, t)
		return t
	}
	t := c.exp(kid, h, wanted{})
	switch t.Kind {
	case api.TNil, api.TFunc:
		return api.Type{}
	case api.TShape:
		return simple(api.TTable)
	}
	return t
}

// or tells whether a type is any or one of these kinds.
func or(t api.Type, kinds ...int) bool {
	return t.Kind == api.TAny || slices.Contains(kinds, t.Kind)
}

// binary looks at an operator with two sides.
func (c *checker) binary(n int, h here) api.Type {
	node := c.l[n]
	left := c.exp(node.Kids[0], h, wanted{})
	right := c.exp(node.Kids[1], h, wanted{})
	switch node.Text {
	case "==", "~=":
		return simple(api.TBool)
	case "<", "<=", ">", ">=":
		ints := or(left, api.TInt) && or(right, api.TInt)
		if !ints && !(or(left, api.TStr) && or(right, api.TStr)) {
			c.fail(n, api.ErrFit)
		}
		return simple(api.TBool)
	}
	kind := api.TInt
	if node.Text == ".." {
		kind = api.TStr
	}
	for at, side := range []api.Type{left, right} {
		if !or(side, kind) {
			c.fail(node.Kids[at], api.ErrFit)
		}
	}
	return simple(kind)
}

// unary looks at a prefix operator.
func (c *checker) unary(n int, h here) api.Type {
	node := c.l[n]
	t := c.exp(node.Kids[0], h, wanted{})
	is := true
	switch node.Text {
	case "not":
		return simple(api.TBool)
	case "-":
		is = or(t, api.TInt)
	case "#":
		is = or(t, api.TStr, api.TTable, api.TShape)
	}
	if !is {
		c.fail(node.Kids[0], api.ErrFit)
	}
	return simple(api.TInt)
}
