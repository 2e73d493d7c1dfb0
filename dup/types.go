package dup

import (
	"slices"

	"ravelin/api"
)

// How many bytes a copy may take: one that is tried, and any.
const (
	few   = 1 << 20
	bound = 1<<31 - 1
)

// How many bytes an entry of a list takes: a type's number and two lists, a text.
const (
	typeBytes = 56
	textBytes = 16
)

// Type copies a type: each list in it as often as it is met, but only once if the copy would otherwise go beyond the bound or have no end.
func Type(t api.Type) api.Type {
	// Most types are small: to try is less work than to look how large they are.
	c := copier{left: few}
	if u := c.copy(t); !c.short {
		return u
	}
	c = copier{left: bound}
	if !fits(t) {
		c.types, c.names = map[list[api.Type]][]api.Type{}, map[list[string]][]string{}
	}
	return c.copy(t)
}

// Types copies types.
func Types(l []api.Type) []api.Type {
	c := make([]api.Type, len(l))
	for n, t := range l {
		c[n] = Type(t)
	}
	return c
}

// copier copies types: their lists anew each time, or once, if it has maps for what it has copied.
type copier struct {
	left  int  // for how many more bytes there is room
	short bool // whether lists were left out for want of room
	types map[list[api.Type]][]api.Type
	names map[list[string]][]string
}

// copy copies a type. Those that are still to do stand in a list, as types may be deeper than calls.
func (c *copier) copy(t api.Type) api.Type {
	work := []*api.Type{&t}
	for len(work) > 0 {
		u := work[len(work)-1]
		work = work[:len(work)-1]
		u.Names, _ = copied(c, c.names, u.Names, textBytes)
		l, fresh := copied(c, c.types, u.Args, typeBytes)
		u.Args = l
		if !fresh {
			continue
		}
		for n := range l {
			work = append(work, &l[n])
		}
	}
	return t
}

// copied tells the copy of a list with entries of so many bytes, and whether it was made just now.
func copied[T any](c *copier, made map[list[T]][]T, l []T, bytes int) ([]T, bool) {
	if len(l) == 0 {
		return nil, false
	}
	if one, is := made[which(l)]; is {
		return one, false
	}
	if len(l) > c.left/bytes {
		c.left, c.short = 0, true
		return nil, false
	}
	c.left -= len(l) * bytes
	one := slices.Clip(slices.Clone(l))
	if made != nil {
		made[which(l)] = one
	}
	return one, true
}

// fits tells whether a copy of a type stays within the bound, with each list as often as it is met.
func fits(t api.Type) bool {
	lists, kids := survey(t)
	if len(lists) == 0 {
		return false
	}
	waits := make([]int, len(lists)) // how many types hold a list that aren't counted yet
	for _, held := range kids {
		for _, k := range held {
			waits[k]++
		}
	}
	times := make([]int, len(lists)) // how often a list is met
	times[0] = 1
	left, done := bound, 0
	ready := []int{0}
	for len(ready) > 0 {
		n := ready[len(ready)-1]
		ready = ready[:len(ready)-1]
		done++
		each := size(lists[n])
		if times[n] > left/each {
			return false
		}
		left -= times[n] * each
		for _, k := range kids[n] {
			times[k] += times[n]
			waits[k]--
			if waits[k] == 0 {
				ready = append(ready, k)
			}
		}
	}
	// Lists that hold themselves go on waiting.
	return done == len(lists)
}

// survey tells the lists of types within a type, each once, itself the first, and which ones each holds; none, if they alone go beyond the bound.
func survey(t api.Type) ([][]api.Type, [][]int) {
	lists, at := [][]api.Type{{t}}, map[list[api.Type]]int{}
	var kids [][]int
	left := bound
	for n := 0; n < len(lists); n++ {
		left -= size(lists[n])
		if left < 0 {
			return nil, nil
		}
		var held []int
		for _, u := range lists[n] {
			if len(u.Args) == 0 {
				continue
			}
			k, is := at[which(u.Args)]
			if !is {
				k = len(lists)
				at[which(u.Args)] = k
				lists = append(lists, u.Args)
			}
			held = append(held, k)
		}
		kids = append(kids, held)
	}
	return lists, kids
}

// size tells how many bytes a list of types takes, with their names, without what they hold.
func size(l []api.Type) int {
	bytes := len(l) * typeBytes
	for _, t := range l {
		bytes += len(t.Names) * textBytes
	}
	return bytes
}
