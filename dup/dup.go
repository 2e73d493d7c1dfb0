// Package dup copies lists and compares them, be they such as may be or not.
package dup

import (
	"slices"

	"ravelin/api"
)

// Nodes copies nodes.
func Nodes(l []api.Node) []api.Node {
	c := slices.Clone(l)
	for n := range c {
		c[n].Kids = slices.Clone(c[n].Kids)
	}
	return c
}
