package dup_test

import (
	"slices"
	"testing"

	"ravelin/api"
	"ravelin/dup"
	"ravelin/tree"
	"ravelin/types"
)

func TestType(t *testing.T) {
	a := api.Type{Kind: api.TShape, Names: []string{"a"}, Args: []api.Type{{Kind: api.TUnion, Args: []api.Type{{Kind: api.TNil}, {Kind: api.TInt}}}}}
	b := dup.Types([]api.Type{a, a})
	if !types.Same(a, b[0]) || !types.Same(a, b[1]) {
		t.Fatal(b)
	}
	b[0].Names[0], b[0].Args[0].Args[1].Kind = "b", api.TStr
	if types.Show(a) != "{a: nil | int}" || types.Show(b[1]) != "{a: nil | int}" {
		t.Error(types.Show(a))
	}
	behind := []string{"a", "b"}
	c := dup.Type(api.Type{Names: behind[:1], Args: []api.Type{{Names: behind[:0]}}})
	if _ = append(c.Names, "c"); behind[1] != "b" {
		t.Error("what lies behind a list")
	}
	if _ = append(c.Args[0].Names, "c"); behind[0] != "a" {
		t.Error("what lies behind a list without entries")
	}
}

// held counts how often each list of types, of names, is met in a type; a list's own ones are looked for once.
func held(t api.Type) (map[*api.Type]int, map[*string]int) {
	lists, names := map[*api.Type]int{}, map[*string]int{}
	work := []api.Type{t}
	for len(work) > 0 {
		u := work[len(work)-1]
		work = work[:len(work)-1]
		if len(u.Names) > 0 {
			names[&u.Names[0]]++
		}
		if len(u.Args) == 0 {
			continue
		}
		lists[&u.Args[0]]++
		if lists[&u.Args[0]] == 1 {
			work = append(work, u.Args...)
		}
	}
	return lists, names
}

// A copy says the same in lists of its own, each of which stands in it once, if that has an end within the bound.
func TestTypeLarge(t *testing.T) {
	part := api.Type{Kind: 9, Names: []string{"a"}, Args: make([]api.Type, 3)}
	full := api.Type{Names: make([]string, 1<<14)}
	for _, x := range []struct {
		name string
		t    api.Type
		once bool
	}{
		{"small", api.Type{Args: []api.Type{part, part}}, true}, {"wide", api.Type{Kind: 9, Args: append(make([]api.Type, 1<<22), part)}, true}, {"names", api.Type{Args: []api.Type{part, {Names: make([]string, 1<<22)}}}, true}, {"deep", tower(1<<18, 1, 5), true},
		{"one list often", tower(18, 2, 5), true}, {"one list very often", tower(25, 2, 5), false}, {"one list too often to be counted", tower(300, 2, 5), false}, {"one list of names too often", api.Type{Args: slices.Repeat([]api.Type{full}, 1<<14)}, false},
		{"a ring", ring(4), false}, {"a longer ring", ring(4, 5, 6), false}, {"beside a ring", api.Type{Kind: 3, Args: []api.Type{part, ring(4, 5), tower(60, 2, 5)}}, false},
	} {
		c := dup.Type(x.t)
		if !dup.Alike(c, x.t) {
			t.Error(x.name, "not alike")
		}
		lists, names := held(x.t)
		copies, others := held(c)
		for k, often := range copies {
			if lists[k] > 0 || x.once && often > 1 {
				t.Fatal(x.name, "a list of types", lists[k], often)
			}
		}
		for k, often := range others {
			if names[k] > 0 || x.once && often > 1 {
				t.Fatal(x.name, "a list of names", names[k], often)
			}
		}
	}
}

func TestAlike(t *testing.T) {
	a := api.Type{Kind: 42, Names: []string{"a"}, Args: []api.Type{{Kind: -1}}}
	if !dup.Alike(a, dup.Type(a)) || dup.Alike(a, api.Type{}) || dup.Alike(a, api.Type{Kind: 42, Names: []string{"b"}, Args: a.Args}) || dup.Alike(a, api.Type{Kind: 42, Names: a.Names}) {
		t.Error("alike")
	}
}

// tower is a type in a type, so many of them; each holds the one within so often, the deepest has this kind.
func tower(many, often, kind int) api.Type {
	t := api.Type{Kind: kind}
	for range many {
		t = api.Type{Kind: api.TFunc, Args: slices.Repeat([]api.Type{t}, often)}
	}
	return t
}

// ring is a type that holds itself behind types of these kinds, its own first.
func ring(kinds ...int) api.Type {
	l := make([]api.Type, len(kinds))
	for n, kind := range kinds {
		next := (n + 1) % len(l)
		l[n] = api.Type{Kind: kind, Args: l[next : next+1]}
	}
	return l[0]
}

// Types are alike whatever they hold, be it much, deep, one list again and again.
func TestAlikeLarge(t *testing.T) {
	for _, x := range []struct {
		name string
		make func(kind int) api.Type
	}{
		{"wide", func(kind int) api.Type {
			return api.Type{Kind: 9, Args: append(make([]api.Type, 1<<22), api.Type{Kind: kind})}
		}},
		{"wide, with parts", func(kind int) api.Type {
			return api.Type{Args: append(slices.Repeat([]api.Type{tower(1, 1, 0)}, 1<<16), tower(1, 1, kind))}
		}},
		{"deep", func(kind int) api.Type { return tower(1<<18, 1, kind) }},
		{"one list often", func(kind int) api.Type { return tower(200, 2, kind) }},
		{"one list often, deep", func(kind int) api.Type { return tower(1<<16, 3, kind) }},
	} {
		a, b, c := x.make(1), x.make(1), x.make(2)
		if !dup.Alike(a, a) || !dup.Alike(a, b) || !dup.Alike(b, a) {
			t.Error(x.name, "alike")
		}
		if dup.Alike(a, c) || dup.Alike(c, a) {
			t.Error(x.name, "not alike")
		}
	}
}

// Types that hold themselves are alike, if no way through both leads to a difference.
func TestAlikeRings(t *testing.T) {
	long := make([]int, 50001)
	for _, x := range []struct {
		name string
		a, b api.Type
		want bool
	}{
		{"one", ring(4), ring(4), true}, {"other kinds", ring(4), ring(5), false}, {"twice round", ring(4, 5), ring(4, 5, 4, 5), true}, {"once and a half", ring(4, 5), ring(4, 5, 4), false}, {"the other way", ring(4, 5), ring(5, 4), false},
		{"a ring and a tower", ring(api.TFunc), tower(1000, 1, api.TFunc), false}, {"long", ring(long...), ring(long[1:]...), true}, {"long, with a mark", ring(append(long, 1)...), ring(append(long[1:], 1)...), false},
	} {
		if dup.Alike(x.a, x.b) != x.want || dup.Alike(x.b, x.a) != x.want || !dup.Alike(x.a, x.a) || !dup.Alike(x.b, x.b) {
			t.Error(x.name)
		}
	}
	l := make([]api.Type, 2)
	l[0].Args, l[1].Args = l, l[:1]
	if !dup.Alike(l[0], l[0]) || dup.Alike(l[0], l[1]) {
		t.Error("lists that lie in one another")
	}
}

func TestNodes(t *testing.T) {
	a := []api.Node{{Kind: api.NNil}, {Kind: api.NUn, Text: "-", Kids: []int{0}, At: 3}}
	b := dup.Nodes(a)
	if !tree.Same(a, b) || b[1].At != 3 {
		t.Fatal(b)
	}
	b[0].Kind, b[1].Kids[0] = 5, 7
	if a[0].Kind != api.NNil || a[1].Kids[0] != 0 {
		t.Error(a)
	}
}
