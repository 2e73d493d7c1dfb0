// Package dup copies lists and compares them, be they such as may be or not.
package dup

import (
	"slices"

	"ravelin/api"
)

// The bounds of what is gone through: nobody writes a type so large, but one that holds itself would have no end.
const (
	most    = 1 << 22
	deepest = 1 << 16
)

// Type copies a type.
func Type(t api.Type) api.Type {
	left := most
	var copied func(t api.Type, deep int) api.Type
	copied = func(t api.Type, deep int) api.Type {
		c := api.Type{Kind: t.Kind, Names: slices.Clone(t.Names)}
		if deep == deepest {
			return c
		}
		for _, a := range t.Args {
			if left == 0 {
				break
			}
			left--
			c.Args = append(c.Args, copied(a, deep+1))
		}
		return c
	}
	return copied(t, 1)
}

// Types copies types.
func Types(l []api.Type) []api.Type {
	c := make([]api.Type, len(l))
	for n, t := range l {
		c[n] = Type(t)
	}
	return c
}

// Nodes copies nodes.
func Nodes(l []api.Node) []api.Node {
	c := slices.Clone(l)
	for n := range c {
		c[n].Kids = slices.Clone(c[n].Kids)
	}
	return c
}
