package narrow_test

import (
	"slices"
	"strconv"
	"strings"
	"testing"

	"ravelin/api"
	"ravelin/narrow"
	"ravelin/parse"
	"ravelin/relate"
	"ravelin/scope"
	"ravelin/types"
)

// condition reads `local x local y local z z = 1 if C then end`, and tells the nodes, the scope, and C's node.
func condition(t *testing.T, c string) ([]api.Node, api.Scope, int) {
	t.Helper()
	l, at, e := parse.Program("local x local y local z z = 1 if " + c + " then end")
	if e != api.OK {
		t.Fatal(c, at, e)
	}
	s, at, e := scope.Program(l)
	if e != api.OK {
		t.Fatal(c, at, e)
	}
	return l, s, l[len(l)-3].Kids[0]
}

// brief writes tests as variable:kinds.
func brief(l []api.Test) string {
	var b []string
	for _, x := range l {
		b = append(b, string(rune('x'+x.Var))+strconv.Itoa(x.Kinds))
	}
	return strings.Join(b, " ")
}

// P12.1
func TestTests(t *testing.T) {
	for c, want := range map[string][2]string{
		"x":                               {"x126", "x3"},
		"not x":                           {"x3", "x126"},
		"not not x":                       {"x126", "x3"},
		"z":                               {"", ""},
		"-x":                              {"", ""},
		"#x":                              {"", ""},
		"x and y":                         {"x126 y126", ""},
		"y and x and y":                   {"y126 x126 y126", ""},
		"x or y":                          {"", "x3 y3"},
		"not (x or y)":                    {"x3 y3", ""},
		"not (x and y)":                   {"", "x126 y126"},
		"x and not (y or x)":              {"x126 y3 x3", ""},
		"x or y and x":                    {"", "x3"},
		"x == nil":                        {"x1", "x126"},
		"nil == x":                        {"x1", "x126"},
		"x ~= nil":                        {"x126", "x1"},
		"nil ~= x":                        {"x126", "x1"},
		"not (x == nil)":                  {"x126", "x1"},
		"z == nil":                        {"", ""},
		"x == y":                          {"", ""},
		"x == 1":                          {"", ""},
		"nil == nil":                      {"", ""},
		"x < nil":                         {"", ""},
		"x.a":                             {"", ""},
		"x.a == nil":                      {"", ""},
		"type(x) == \"int\"":              {"x4", "x123"},
		"\"nil\" == type(x)":              {"x1", "x126"},
		"type(x) ~= \"function\"":         {"x95", "x32"},
		"type(x) == \"bool\"":             {"x2", "x125"},
		"type(x) == \"string\"":           {"x8", "x119"},
		"type(x) == \"table\"":            {"x16", "x111"},
		"type(x) == \"thread\"":           {"x64", "x63"},
		"type(x) == \"any\"":              {"", ""},
		"type(x) == \"?\"":                {"", ""},
		"type(x) == \"\"":                 {"", ""},
		"type(z) == \"int\"":              {"", ""},
		"type(x.a) == \"int\"":            {"", ""},
		"type(x) == type(y)":              {"", ""},
		"status(x) == \"int\"":            {"", ""},
		"x ~= nil and type(y) == \"int\"": {"x126 y4", ""},
		"true":                            {"", ""},
		"x()":                             {"", ""},
		"z or y":                          {"", "y3"},
	} {
		l, s, n := condition(t, c)
		yes, no := narrow.Tests(l, s, n, true), narrow.Tests(l, s, n, false)
		if brief(yes) != want[0] || brief(no) != want[1] {
			t.Errorf("%s: %q %q", c, brief(yes), brief(no))
		}
	}
}

// P12.1: of other trees, scopes, nodes nothing.
func TestOthers(t *testing.T) {
	l, s, n := condition(t, "x")
	for k := -1; k <= len(l); k++ {
		if got := narrow.Tests(l, s, k, true); len(got) > 0 && l[k].Kind != api.NName {
			t.Error(k, got)
		}
	}
	change := func(f func(s *api.Scope)) {
		o := api.Scope{Vars: slices.Clone(s.Vars), Uses: slices.Clone(s.Uses), Funcs: slices.Clone(s.Funcs), Ups: slices.Clone(s.Ups)}
		f(&o)
		if got := narrow.Tests(l, o, n, true); len(got) > 0 {
			t.Error(o, got)
		}
	}
	change(func(o *api.Scope) { *o = api.Scope{} })
	change(func(o *api.Scope) { o.Vars[0].Taken = true })
	change(func(o *api.Scope) { o.Vars = o.Vars[:2] })
	change(func(o *api.Scope) { o.Uses[n] = 1 })
	change(func(o *api.Scope) { o.Uses[n] = 99 })
	change(func(o *api.Scope) { o.Funcs[0] = 0 })
	change(func(o *api.Scope) { o.Ups[0] = 0 })
	if got := narrow.Tests(l[1:], s, n, true); len(got) > 0 {
		t.Error(got)
	}
	if got := narrow.Tests(nil, api.Scope{}, 0, true); len(got) > 0 {
		t.Error(got)
	}
}

func flat(kinds ...int) api.Type {
	if len(kinds) == 1 {
		return api.Type{Kind: kinds[0]}
	}
	t := api.Type{Kind: api.TUnion}
	for _, k := range kinds {
		t.Args = append(t.Args, api.Type{Kind: k})
	}
	return t
}

// P12.2
func TestType(t *testing.T) {
	shape := api.Type{Kind: api.TShape, Names: []string{"a"}, Args: []api.Type{flat(3)}}
	arrow := api.Type{Kind: api.TFunc, Args: []api.Type{flat(3)}}
	for _, x := range []struct {
		t     api.Type
		kinds int
		want  string
	}{
		{flat(1, 3), 126, "int"}, {flat(1, 3), 1, "nil"}, {flat(1, 3), 5, "nil | int"}, {flat(1, 3), 2, "nil | int"}, {flat(1, 3), 0, "nil | int"}, {flat(1, 2, 3), 3, "nil | bool"}, {flat(1, 5), 126, "table"}, {flat(3), 1, "int"}, {flat(3), 127, "int"},
		{flat(0), 4, "int"}, {flat(0), 1, "nil"}, {flat(0), 16, "table"}, {flat(0), 64, "thread"}, {flat(0), 32, "any"}, {flat(0), 126, "any"}, {flat(0), 3, "any"}, {flat(0), 0, "any"}, {flat(0), 127, "any"}, {flat(0), -1, "any"}, {flat(0), 4 | 1<<20, "int"},
		{shape, 1, "{a: int}"}, {shape, 16, "{a: int}"}, {arrow, 32, "() -> int"}, {arrow, 1, "() -> int"},
	} {
		if got := types.Show(narrow.Type(x.t, x.kinds)); got != x.want {
			t.Error(types.Show(x.t), x.kinds, got)
		}
	}
	bad := api.Type{Kind: 42, Names: []string{"x"}, Args: []api.Type{flat(3)}}
	if got := narrow.Type(bad, 4); got.Kind != 42 || len(got.Names) != 1 || len(got.Args) != 1 {
		t.Error(got)
	}
	got := narrow.Type(shape, 16)
	got.Names[0] = "b"
	if shape.Names[0] != "a" {
		t.Error("an answer is shared")
	}
}

// P12.3
func TestAll(t *testing.T) {
	l := []api.Test{{Var: 1, Kinds: 6}, {Var: 0, Kinds: 1}, {Var: 1, Kinds: 5}, {Var: 1, Kinds: 1}}
	for v, want := range map[int]string{0: "nil", 1: "int", 2: "nil | bool | int", -1: "nil | bool | int"} {
		if got := types.Show(narrow.All(flat(1, 2, 3), v, l)); got != want {
			t.Error(v, got)
		}
	}
}

// nested is a type of a kind in a type of that kind, so many of them, each of which holds the one within so often.
func nested(kind, many, often int) api.Type {
	var t api.Type
	for range many {
		t = api.Type{Kind: kind, Args: slices.Repeat([]api.Type{t}, often)}
	}
	return t
}

// depth is how deep a type is, going down by the last of its parts.
func depth(t api.Type) int {
	n := 0
	for ; len(t.Args) > 0; n++ {
		t = t.Args[len(t.Args)-1]
	}
	return n
}

// P12.2, P12.3, P2: types that may not be are answered whole, however large or deep, in lists of their own.
func TestLarge(t *testing.T) {
	l := []api.Test{{Var: 1, Kinds: 1}, {Var: 0, Kinds: 126}}
	for _, kind := range []int{api.TNil, api.TUnion, api.TShape, api.TFunc, 99, -1} {
		wide := api.Type{Kind: kind, Names: []string{"a"}, Args: append(make([]api.Type, 1<<18), api.Type{Kind: 1})}
		deep, often := nested(kind, 70000, 1), nested(kind, 200, 2)
		for _, f := range []func(t api.Type) api.Type{
			func(t api.Type) api.Type { return narrow.Type(t, 126) }, func(t api.Type) api.Type { return narrow.All(t, 0, nil) }, func(t api.Type) api.Type { return narrow.All(t, 1, l) },
		} {
			a, b, c := f(wide), f(deep), f(often)
			if a.Kind != kind || len(a.Names) != 1 || len(a.Args) != 1<<18+1 || a.Args[1<<18].Kind != 1 {
				t.Error(kind, "wide", len(a.Args))
			}
			if b.Kind != kind || depth(b) != 70000 || c.Kind != kind || depth(c) != 200 || len(c.Args[0].Args) != 2 {
				t.Error(kind, "deep", depth(b), depth(c))
			}
			a.Names[0], a.Args[1<<18].Kind, b.Args[0].Kind, c.Args[0].Kind = "b", 2, 77, 77
			if wide.Names[0] != "a" || wide.Args[1<<18].Kind != 1 || deep.Args[0].Kind != kind || often.Args[0].Kind != kind {
				t.Error(kind, "an answer is shared")
			}
		}
	}
	a := narrow.Type(api.Type{Kind: 99, Args: make([]api.Type, 1<<22+1)}, 127)
	if len(a.Args) != 1<<22+1 {
		t.Error(len(a.Args))
	}
}

// P1, P2: a type that holds itself.
func TestRing(t *testing.T) {
	for _, kind := range []int{api.TUnion, api.TShape, api.TFunc, 99} {
		l := []api.Type{{Kind: kind, Names: []string{"a"}}, {Kind: kind}}
		l[0].Args, l[1].Args = l, l[1:]
		for _, got := range []api.Type{narrow.Type(l[0], 126), narrow.All(l[0], 0, nil), narrow.All(l[0], 0, []api.Test{{Kinds: 1}, {Kinds: 2}})} {
			if got.Kind != kind || len(got.Names) != 1 || len(got.Args) != 2 || len(got.Args[1].Args) != 1 || len(got.Args[0].Args[0].Args) != 2 {
				t.Error(kind, len(got.Args))
			}
			got.Args[0].Kind, got.Args[1].Args[0].Kind, got.Names[0] = 77, 77, "b"
		}
		if l[0].Kind != kind || l[1].Kind != kind || l[0].Names[0] != "a" {
			t.Error(kind, "an answer is shared")
		}
	}
}

// P12.4
func TestSound(t *testing.T) {
	for kinds := range 128 {
		for of := range 128 {
			x := types.Union(of)
			n := narrow.Type(x, kinds)
			if !relate.Sub(n, x) {
				t.Error(types.Show(x), kinds)
			}
			if types.Kinds(x)&kinds&^types.Kinds(n) != 0 {
				t.Error(types.Show(x), kinds, types.Show(n))
			}
		}
	}
}
