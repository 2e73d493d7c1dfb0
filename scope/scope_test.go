package scope_test

import (
	"slices"
	"strconv"
	"strings"
	"testing"

	"ravelin/api"
	"ravelin/parse"
	"ravelin/scope"
)

func parsed(t *testing.T, s string) []api.Node {
	t.Helper()
	l, at, e := parse.Program(s)
	if e != api.OK {
		t.Fatalf("%q: %d %d", s, at, e)
	}
	return l
}

// brief writes a scope: variables (kind of node, name, function, Taken, Set), names in the order of the text, functions.
func brief(t *testing.T, s string) string {
	t.Helper()
	l := parsed(t, s)
	sc, at, e := scope.Program(l)
	if e != api.OK || at != 0 || len(sc.Uses) != len(l) || len(sc.Funcs) != len(sc.Ups) {
		t.Fatalf("%q: %d %d", s, at, e)
	}
	var b []string
	for n, v := range sc.Vars {
		x := l[v.Node].Text + strconv.Itoa(v.Fn)
		if v.Taken {
			x += "t"
		}
		if v.Set {
			x += "s"
		}
		b = append(b, x)
		if sc.Uses[v.Node] != n {
			t.Errorf("%q: Uses of %d", s, v.Node)
		}
	}
	b = append(b, "|")
	for n, node := range l {
		switch node.Kind {
		case api.NName:
			b = append(b, node.Text+strconv.Itoa(sc.Uses[n]))
		case api.NLocal, api.NParam, api.NFunction:
		default:
			if sc.Uses[n] != -1 {
				t.Errorf("%q: Uses of %d", s, n)
			}
		}
	}
	b = append(b, "|")
	for n, f := range sc.Funcs {
		if n == 0 && f != -1 || n > 0 && l[f].Kind != api.NFunc {
			t.Errorf("%q: function %d", s, n)
		}
		b = append(b, strconv.Itoa(sc.Ups[n]))
	}
	return strings.Join(b, " ")
}

// P11.1
func TestScope(t *testing.T) {
	for s, want := range map[string]string{
		"":                                      "| | -1",
		"local x = 1 function f() return x end": "x0t f0 | x0 | -1 0",
		"local x = 1 local x = x local y = x":   "x0 x0 y0 | x0 x1 | -1",
		"local x if x then local x x = 1 else x = 2 end x()":                         "x0s x0s | x0 x1 x0 x0 | -1",
		"function f(f) f() end f()":                                                  "f0 f1 | f1 f0 | -1 0",
		"function f() f() end":                                                       "f0t | f0 | -1 0",
		"local a a.b = a a[a] = 1":                                                   "a0 | a0 a0 a0 a0 | -1",
		"local a a = function() local b b = function() a = b end end":                "a0ts b1ts | a0 b1 a0 b1 | -1 0 1",
		"local a local f = function(x, y) return x + a end local g = function() end": "a0t x1 y1 f0 g0 | x1 a0 | -1 0 0",
		"local i while i do local j = i if j then break end end":                     "i0 j0 | i0 i0 j1 | -1",
		"function f(x) local x = x return x end":                                     "f0 x1 x1 | x1 x2 | -1 0",
		"local a = {a = 1, function(b) return b end} return a":                       "b1 a0 | b0 a1 | -1 0",
		"local x local y = x y = function() x = y end x = 2":                         "x0ts y0ts | x0 y1 x0 y1 x0 | -1 0",
	} {
		if got := brief(t, s); got != want {
			t.Errorf("%q: %s", s, got)
		}
	}
}

// P11.1: the first that is wrong, at its place in the text.
func TestWrong(t *testing.T) {
	locals := func(n int) string {
		var b strings.Builder
		for k := range n {
			b.WriteString("local a" + strconv.Itoa(k) + " ")
		}
		return b.String()
	}
	for _, x := range []struct {
		s    string
		kind int
		at   int
		e    api.Errno
	}{
		{"x()", api.NName, 0, api.ErrScope}, {"local x = x", api.NName, 10, api.ErrScope}, {"local f = function() return f end", api.NName, 28, api.ErrScope}, {"if true then local x end x()", api.NName, 25, api.ErrScope},
		{"f() function f() end", api.NName, 0, api.ErrScope}, {"function f(a, b, a) end", api.NParam, 17, api.ErrScope}, {"function f(a) end a()", api.NName, 18, api.ErrScope}, {"a.b = c", api.NName, 0, api.ErrScope}, {"local t t[x] = y", api.NName, 10, api.ErrScope},
		{"while true do x() end y()", api.NName, 14, api.ErrScope}, {"local x: any @ 1 = y", api.NName, 19, api.ErrScope}, {"return {a = b}", api.NName, 12, api.ErrScope},
		{"break", api.NBreak, 0, api.ErrBreak}, {"while true do function f() break end end", api.NBreak, 27, api.ErrBreak}, {"while true do end break", api.NBreak, 18, api.ErrBreak}, {"if true then break end x()", api.NBreak, 13, api.ErrBreak}, {"x() break", api.NName, 0, api.ErrScope},
		{locals(200) + "local y", api.NLocal, len(locals(200)), api.ErrLong}, {locals(200) + "local y = x", api.NName, len(locals(200)) + 10, api.ErrScope}, {locals(200) + "function f() x() end", api.NFunction, len(locals(200)), api.ErrLong},
		{"function f(" + strings.TrimSuffix(strings.ReplaceAll(strings.ReplaceAll(locals(201), "local ", ""), " ", ", "), ", ") + ") end", api.NParam, len("function f(") + 2*10 + 2*10 + 3*90 + 2*90 + 6*100, api.ErrLong},
		{"function f() " + locals(200) + "local x = function(a) local b end local c end", api.NLocal, 13 + len(locals(200)), api.ErrLong},
	} {
		l := parsed(t, x.s)
		sc, at, e := scope.Program(l)
		if e != x.e || l[at].At != x.at || l[at].Kind != x.kind || len(sc.Vars)+len(sc.Uses)+len(sc.Funcs)+len(sc.Ups) != 0 {
			t.Errorf("%.40q: %d %d at %d", x.s, at, e, l[at].At)
		}
	}
	brief(t, locals(199)+"local f = function("+"a) "+locals(199)+" end")
	if _, at, e := scope.Program([]api.Node{{Kind: api.NNil}, {Kind: api.NBlock, Kids: []int{0}}}); at != 1 || e != api.ErrTree {
		t.Error(at, e)
	}
}

// find tells the first node of a kind.
func find(l []api.Node, kind int) int {
	return slices.IndexFunc(l, func(n api.Node) bool { return n.Kind == kind })
}

// P11.2
func TestReturnsBreaks(t *testing.T) {
	for _, x := range []struct {
		s               string
		kind            int
		returns, breaks bool
	}{
		{"if true then return end", api.NIf, true, false}, {"if true then else return end", api.NIf, true, false}, {"while true do if true then break end end", api.NIf, false, true}, {"while true do if true then break end end", api.NWhile, false, true},
		{"while true do while true do break end end", api.NProgram, false, false}, {"while true do return end", api.NProgram, true, false}, {"function f() return end", api.NProgram, false, false}, {"function f() return end", api.NFunction, false, false}, {"function f() return end", api.NFunc, true, false},
		{"local x = function() while true do break end end", api.NFunc, false, false}, {"return", api.NReturn, true, false}, {"while true do break end", api.NBreak, false, true}, {"local x = 1", api.NInt, false, false}, {"return function() return end", api.NReturn, true, false},
	} {
		l := parsed(t, x.s)
		n := find(l, x.kind)
		if scope.Returns(l, n) != x.returns || scope.Breaks(l, n) != x.breaks {
			t.Errorf("%q %d: %v %v", x.s, x.kind, scope.Returns(l, n), scope.Breaks(l, n))
		}
	}
	l := parsed(t, "while true do if true then break end end return")
	outer := len(l) - 3
	for l[outer].Kind != api.NWhile {
		outer--
	}
	if !scope.Breaks(l, outer) || scope.Breaks(l, len(l)-1) || !scope.Returns(l, len(l)-1) {
		t.Error("loops within")
	}
	for _, n := range []int{-1, len(l), 1 << 62} {
		if scope.Returns(l, n) || scope.Breaks(l, n) || scope.Ends(l, n) {
			t.Error(n)
		}
	}
	if none := []api.Node{{Kind: api.NNone}, {Kind: api.NReturn, Kids: []int{0}}, {Kind: api.NBlock, Kids: []int{1}}}; scope.Returns(none, 2) || scope.Ends(none, 2) {
		t.Error("no tree")
	}
}

// P11.3
func TestEnds(t *testing.T) {
	for s, want := range map[string]bool{
		"": false, "return": true, "local x return x": true, "if true then return end": false, "if true then return else return 1 end": true, "if true then return else end": false, "if true then else return end": false,
		"if true then return elseif true then return else return end": true, "if true then return elseif true then return end": false, "while true do return end": false, "function f() return end": false, "if true then return else return end local x": false,
	} {
		l := parsed(t, s)
		if scope.Ends(l, len(l)-2) != want {
			t.Errorf("%q", s)
		}
		if scope.Ends(l, len(l)-1) {
			t.Error("a program is no block")
		}
	}
}
