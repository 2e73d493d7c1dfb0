package check

import (
	"slices"

	"ravelin/api"
	"ravelin/value"
)

// tests is narrow.Tests of a condition of this tree; that one would look through the whole tree for each condition.
func (c *checker) tests(n int, yes bool) []api.Test {
	node := c.l[n]
	if node.Kind == api.NAnd && yes || node.Kind == api.NOr && !yes {
		return slices.Concat(c.tests(node.Kids[0], yes), c.tests(node.Kids[1], yes))
	}
	if node.Kind == api.NUn && node.Text == "not" {
		return c.tests(node.Kids[0], !yes)
	}
	name, kinds := c.told(n, yes)
	if name < 0 || c.s.Vars[c.s.Uses[name]].Set {
		return nil
	}
	return []api.Test{{Var: c.s.Uses[name], Kinds: kinds}}
}

// told tells of which name a condition says something (-1 of none), and the kinds that its value may have.
func (c *checker) told(n int, yes bool) (int, int) {
	node := c.l[n]
	if node.Kind == api.NName {
		if yes {
			return n, solid
		}
		return n, falsy
	}
	if node.Kind != api.NBin || node.Text != "==" && node.Text != "~=" {
		return -1, 0
	}
	name, kind := c.pair(node.Kids[0], node.Kids[1])
	if name < 0 {
		name, kind = c.pair(node.Kids[1], node.Kids[0])
	}
	if yes == (node.Text == "==") {
		return name, 1 << kind
	}
	return name, 127 &^ (1 << kind)
}

// pair tells the name and the kind of `name == nil` and of `type(name) == "kind"`; -1 of others.
func (c *checker) pair(a, b int) (int, int) {
	left, right := c.l[a], c.l[b]
	if left.Kind == api.NName && right.Kind == api.NNil {
		return a, api.Nil
	}
	if left.Kind != api.NBuiltin || left.Text != "type" || right.Kind != api.NStr || c.l[left.Kids[0]].Kind != api.NName {
		return -1, 0
	}
	for kind := api.Nil; kind <= api.Thread; kind++ {
		if value.Type(api.Value{Kind: kind}) == right.Text {
			return left.Kids[0], kind
		}
	}
	return -1, 0
}
