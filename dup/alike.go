package dup

import (
	"slices"

	"ravelin/api"
)

// list is which list one is: where it begins and how many it has. A type may hold one list often, or itself.
type list[T any] struct {
	first *T
	many  int
}

// which tells which list one is that isn't empty.
func which[T any](l []T) list[T] { return list[T]{&l[0], len(l)} }

// classes are lists that are held to be alike: each but one of a class leads to another one of it.
type classes map[list[api.Type]]list[api.Type]

// head tells the one list of a class that leads nowhere.
func (c classes) head(l list[api.Type]) list[api.Type] {
	for {
		next, is := c[l]
		if !is {
			return l
		}
		if behind, is := c[next]; is {
			// Ways are made shorter as they are gone, else a long one would be gone again and again.
			c[l] = behind
		}
		l = next
	}
}

// merge holds lists to be alike, and tells whether they weren't before.
func (c classes) merge(a, b list[api.Type]) bool {
	a, b = c.head(a), c.head(b)
	if a == b {
		return false
	}
	c[a] = b
	return true
}

// pair are two lists of as many types.
type pair struct{ a, b []api.Type }

// Alike tells whether types are alike. Lists are held to be alike till a difference turns up, so that it ends even for types that hold themselves.
func Alike(a, b api.Type) bool {
	held := classes{}
	work := []pair{{[]api.Type{a}, []api.Type{b}}}
	for len(work) > 0 {
		p := work[len(work)-1]
		work = work[:len(work)-1]
		for n := range p.a {
			x, y := &p.a[n], &p.b[n]
			if x.Kind != y.Kind || len(x.Args) != len(y.Args) || !slices.Equal(x.Names, y.Names) {
				return false
			}
			if len(x.Args) > 0 && held.merge(which(x.Args), which(y.Args)) {
				work = append(work, pair{x.Args, y.Args})
			}
		}
	}
	return true
}
