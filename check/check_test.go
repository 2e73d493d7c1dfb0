package check_test

import (
	"slices"
	"strconv"
	"strings"
	"testing"

	"ravelin/api"
	"ravelin/check"
	"ravelin/parse"
	"ravelin/relate"
	"ravelin/scope"
	"ravelin/types"
)

// taken checks a text that must be taken.
func taken(t *testing.T, s string) ([]api.Node, api.Elab) {
	t.Helper()
	l, e, at, err := check.Source(s)
	if err != api.OK || at != 0 {
		t.Fatalf("%q: %d %d", s, at, err)
	}
	return l, e
}

// vars writes the variables' types, in order.
func vars(l []api.Node, e api.Elab) string {
	var b []string
	for n, v := range e.Scope.Vars {
		b = append(b, l[v.Node].Text+": "+types.Show(e.Vars[n]))
	}
	return strings.Join(b, "; ")
}

// casts writes the casts as place from > to side, then the places that are loose.
func casts(l []api.Node, e api.Elab) string {
	var b []string
	for _, c := range e.Casts {
		b = append(b, strconv.Itoa(l[c.Node].At)+" "+types.Show(c.From)+" > "+types.Show(c.To)+" "+strconv.Itoa(c.Side))
	}
	for _, n := range e.Loose {
		b = append(b, "loose "+strconv.Itoa(l[n].At))
	}
	return strings.Join(b, "; ")
}

// P13.1: types of variables.
func TestVars(t *testing.T) {
	for s, want := range map[string]string{
		"local x":                            "x: any",
		"local x = nil":                      "x: any",
		"local x = 1 local y = x":            "x: int; y: int",
		"local x = true":                     "x: bool",
		"local x: int | nil":                 "x: nil | int",
		"local x: int | nil = 1 local y = x": "x: nil | int; y: nil | int",
		"local x: any = 1":                   "x: any",
		"local x: int @ 3 = 1":               "x: int",
		"local x = read(0)":                  "x: nil | int",
		"local x = write(0, 1)":              "x: any",
		"local x = type(1) .. \"a\"":         "x: string",
		"local x = 1 < 2 local y = not x local z = 1 == nil": "x: bool; y: bool; z: bool",
		"local x = #\"a\" local y = -1 local z = 1 // 2":     "x: int; y: int; z: int",
		"local x = {}":                 "x: table",
		"local x = {1}":                "x: table",
		"local x = {b = 1, a = \"s\"}": "x: {a: string, b: int}",
		"local x = {a = nil, b = function() end, c = {d = 1}, e = {}}":                 "x: {a: any, b: any, c: table, e: table}",
		"local x = {a = 1, a = 2}":                                                     "x: table",
		"local x = {a = 1, 2}":                                                         "x: table",
		"local x = {a = read(0)}":                                                      "x: {a: nil | int}",
		"local x: any = {a = 1}":                                                       "x: any",
		"local x: {a: any} = {a = 1} local y = x.a":                                    "x: {a: any}; y: any",
		"local x: table = {a = 1} local y = x.a local z = x[1]":                        "x: table; y: any; z: any",
		"local x = {a = 1} local y = x.a local z = x[\"a\"]":                           "x: {a: int}; y: int; z: any",
		"local x local y = x.a local z = x[1]":                                         "x: any; y: any; z: any",
		"function f(a: int, b): string return \"\" end local x = f(1, 2)":              "f: (int, any) -> string; a: int; b: any; x: string",
		"local f = function() end":                                                     "f: () -> any",
		"local x = pcall(function() end)":                                              "x: {ok: bool, value: any}",
		"local c = create(function(x) end) local r = resume(c, 1) local s = status(c)": "x: any; c: thread; r: {ok: bool, value: any}; s: string",
		"local k = key({}, 1) local y = error(1) local z = yield(1)":                   "k: any; y: any; z: any",
		"local a: int | nil local b = a and 1 local c = a or \"s\"":                    "a: nil | int; b: nil | int; c: int | string",
		"local a = 1 and 2 local b = nil or 1 local c = false or 1":                    "a: int; b: nil | int; c: bool | int",
		"local a: any local b = a and 1 local c = a or 1":                              "a: any; b: any; c: any",
	} {
		l, e := taken(t, s)
		if got := vars(l, e); got != want {
			t.Errorf("%q: %s", s, got)
		}
	}
}

// P13.1: what conditions tell.
func TestNarrowed(t *testing.T) {
	for _, s := range []string{
		"local x = read(0) if x then local y: int = x end", "local x = read(0) if not x then local y: nil = x else local y: int = x end", "local x = read(0) if x == nil then local y: nil = x else local y: int = x end",
		"local x = read(0) while x do local y: int = x break end", "local x = read(0) local y: int = x or 1", "local x = read(0) local y = x and x + 1", "local x = read(0) local y = x == nil or x + 1 > 2",
		"local x = read(0) if x then local f = function(): int return x end end", "local x: any if type(x) == \"int\" then local y = x + 1 end",
		"local x: int | nil | string = 1 if x and type(x) == \"int\" then local y: int = x elseif x then local z: string | int = x end", "local x = read(0) if x ~= nil and x > 1 then end",
	} {
		l, e := taken(t, s)
		if got := casts(l, e); got != "" {
			t.Errorf("%q: %s", s, got)
		}
	}
	for _, x := range []struct {
		s  string
		at int
	}{
		{"local x = read(0) x = nil if x then local y: int = x end", 51}, {"local x = read(0) if x then end local y: int = x", 47}, {"local x = read(0) if x then else local y: int = x end", 48}, {"local x = read(0) while x do end local y: int = x", 48},
		{"local x = read(0) local y: int = x and 1", 35}, {"local x = read(0) if x or true then local y: int = x end", 51}, {"local x = read(0) local y = (x or 1) + x", 39},
	} {
		if _, _, at, e := check.Source(x.s); at != x.at || e != api.ErrFit {
			t.Errorf("%q: %d %d", x.s, at, e)
		}
	}
}

// P13.1: casts and what is loose.
func TestCasts(t *testing.T) {
	for s, want := range map[string]string{
		"local t: any = 1 local n: int = t":                          "32 any > int 1",
		"local n: int | nil = 1":                                     "",
		"local t: table = {} local s: {a: int} = t":                  "40 table > {a: int} 1",
		"local s: {a: int} = {}":                                     "20 table > {a: int} 1",
		"local s: {a: int, b: any} = {a = 1, b = 2}":                 "",
		"local s: {a: any} = {a = 1, b = 2}":                         "",
		"local x = {a = 1} local s: {a: any} = x":                    "38 {a: int} > {a: any} 2",
		"local s: {a: int} = {a = 1, 2}":                             "20 table > {a: int} 1",
		"local a: any local s: {b: int} = {b = a}":                   "38 any > int 1",
		"local f: any = function(x: int): int return x end f(\"s\")": "loose 51",
		"local f: (any) -> any = function(x: int): int return x end": "24 (int) -> int > (any) -> any 2",
		"local f: (int) -> any = function(x: int): int return x end": "",
		"function f(a: int) end local x f(x)":                        "33 any > int 1",
		"local x: any x()":                                           "loose 14",
		"local x x.a = 1 x[1] = 2 local t = {} t.b = 1":              "loose 12; loose 21; loose 42",
		"local x = {a = 1} x.a = 2 x[\"a\"] = 3":                     "loose 33",
		"local x = {a = 1} local y x.a = y":                          "32 any > int 1",
		"local x: int = 1 local y x = y":                             "29 any > int 1",
		"function f(): int local x return x end":                     "33 any > int 1",
		"local x return x":                                           "",
		"pcall(function() end)":                                      "loose 0",
		"pcall(function(): int return 1 end)":                        "loose 0",
		"local f pcall(f)":                                           "14 any > () -> any 1; loose 8",
		"local x key(x, x)":                                          "12 any > table 1; 15 any > int 1",
		"local c = create(function(x: int) end)":                     "17 (int) -> any > (any) -> any 1",
		"local c resume(c, 1)":                                       "15 any > thread 1; loose 8",
		"local x local y = x + 1 local z = x .. x local w = x < 1":   "",
	} {
		l, e := taken(t, s)
		if got := casts(l, e); got != want {
			t.Errorf("%q: %s", s, got)
		}
		if check.Plain(e) != (want == "") {
			t.Errorf("%q: plain", s)
		}
	}
}

// P13.1, P13.2: the first that does not fit.
func TestWrong(t *testing.T) {
	for _, x := range []struct {
		s  string
		at int
		e  api.Errno
	}{
		{"local x: int = 1 + read(0)", 19, api.ErrFit}, {"local x = read(0) + \"a\"", 10, api.ErrFit}, {"local x = 1 + \"a\"", 14, api.ErrFit}, {"local x = \"a\" .. 1", 17, api.ErrFit}, {"local x = 1 < \"a\"", 12, api.ErrFit}, {"local x = true < 1", 15, api.ErrFit}, {"local x = -\"a\"", 11, api.ErrFit}, {"local x = #1", 11, api.ErrFit},
		{"local x: int = \"a\"", 15, api.ErrFit}, {"local x: int", 0, api.ErrFit}, {"local x: {a: int}", 0, api.ErrFit}, {"local x: int = nil", 15, api.ErrFit}, {"local x: int = {}", 15, api.ErrFit}, {"local x: nil | table = 1", 23, api.ErrFit},
		{"local x = 1 x = \"a\"", 16, api.ErrFit}, {"local x = {a = 1} x.a = \"s\"", 24, api.ErrFit}, {"local x = {a = 1} x.b = 1", 19, api.ErrFit}, {"local x = 1 x.a = 2", 13, api.ErrFit}, {"local x = 1 x[1 + \"\"] = 2", 13, api.ErrFit}, {"local x x[1 + \"\"] = -\"\"", 14, api.ErrFit}, {"local x x.a = -\"\"", 15, api.ErrFit},
		{"local x = {a = 1} local y = x.b", 29, api.ErrFit}, {"local x = 1 local y = x.a", 23, api.ErrFit}, {"local x = 1 local y = x[-\"\"]", 23, api.ErrFit}, {"local x: table | nil local y = x.a", 32, api.ErrFit}, {"local x local y = x[-\"\"]", 21, api.ErrFit},
		{"local x = 1 x(-\"\")", 13, api.ErrFit}, {"function f(a) end f()", 19, api.ErrFit}, {"function f(a) end f(1, -\"\")", 19, api.ErrFit}, {"function f(a: int, b: int) end f(\"\", -\"\")", 33, api.ErrFit}, {"function f(a: int, b: int) end f(1, \"\")", 36, api.ErrFit}, {"local x x(-\"\")", 11, api.ErrFit},
		{"pcall(1)", 6, api.ErrFit}, {"pcall(function(x) end)", 6, api.ErrFit}, {"create(function() end)", 7, api.ErrFit}, {"key(1, 1)", 4, api.ErrFit}, {"key({}, \"\")", 8, api.ErrFit}, {"resume(1, 1)", 7, api.ErrFit}, {"status(nil)", 7, api.ErrFit},
		{"local x: {a: int} = {b = 1}", 20, api.ErrFit}, {"local x: {a: int} = {a = \"\"}", 25, api.ErrFit}, {"local x = {a = 1} local y: {a: int, b: int} = x", 46, api.ErrFit}, {"local x: {a: nil | int} = {a = 1} local y: {a: int} = x", 54, api.ErrFit},
		{"function f(): int end", 0, api.ErrReturn}, {"function f(): int if true then return 1 end end", 0, api.ErrReturn}, {"function f(): int return end", 18, api.ErrFit}, {"function f(): int return \"\" end", 25, api.ErrFit}, {"local f = function(): int local x = -\"\" end", 37, api.ErrFit}, {"function f(): int while true do return 1 end end", 0, api.ErrReturn},
		{"local x: {a: () -> int} = 1", 10, api.ErrType}, {"function f(a: {b: {}}) end", 15, api.ErrType}, {"function f(): int | {} end", 20, api.ErrType}, {"local x: int | {} = -\"\"", 15, api.ErrType}, {"local x: int = -\"\" local y: {} | int", 16, api.ErrFit}, {"f(1)", 0, api.ErrScope}, {"break", 0, api.ErrBreak}, {"local x x", 8, api.ErrSyntax},
		{"local x local f: (int, {a: {}}) -> int", 24, api.ErrType}, {"if -\"\" then local y: {} | int end", 4, api.ErrFit}, {"while -\"\" do end", 7, api.ErrFit}, {"return -\"\"", 8, api.ErrFit}, {"local x = {1, -\"\"}", 15, api.ErrFit}, {"local x = {a = -\"\"}", 16, api.ErrFit},
		{"local f: (" + strings.Repeat("() -> ", 50) + "int) -> int", 9, api.ErrLong}, {"local f = function(x: " + strings.Repeat("() -> ", 49) + "int) return -\"\" end", 10, api.ErrLong}, {"function f(x: " + strings.Repeat("() -> ", 49) + "int) return -\"\" end", 0, api.ErrLong},
		{"function f(x: " + strings.Repeat("() -> ", 49) + "int, y: {} | int) end", 0, api.ErrLong}, {"local f = function(x: " + strings.Repeat("() -> ", 49) + "int, y: {} | int) end", 324, api.ErrType},
		{"local x: () -> int = function(): int | nil return end", 21, api.ErrFit}, {"function f(x: int) end local g: (any, any) -> any = f", 52, api.ErrFit},
	} {
		l, e, at, err := check.Source(x.s)
		if at != x.at || err != x.e || len(l) != 0 || len(e.Types) != 0 {
			t.Errorf("%.60q: %d %d, not %d %d", x.s, at, err, x.at, x.e)
		}
	}
}

// P13.1: what may be without an answer, and what must not.
func TestReturns(t *testing.T) {
	for _, s := range []string{"function f(): any end", "function f(): nil end", "function f(): int | nil end", "function f(): int | nil return end", "function f(): int if true then return 1 else return 2 end end", "function f(): int return 1 end", "function f() return end return 1"} {
		taken(t, s)
	}
}

// P13.1: types by node.
func TestTypes(t *testing.T) {
	l, e := taken(t, "local t = {a = 1} t.a = 2 local x: any x.b = t.a local f = function(y: int): bool return y == 1 end t[1] = read(0)")
	var b []string
	for n, node := range l {
		switch node.Kind {
		case api.NName, api.NField, api.NIndex, api.NFunc, api.NTable, api.NBin, api.NBuiltin, api.NInt:
			b = append(b, strconv.Itoa(node.At)+" "+types.Show(e.Types[n]))
		default:
			if !types.Same(e.Types[n], api.Type{}) {
				t.Error(node, types.Show(e.Types[n]))
			}
		}
	}
	want := "15 int; 10 {a: int}; 18 {a: int}; 19 int; 24 int; 39 any; 40 any; 45 {a: int}; 46 int; 89 int; 94 int; 91 bool; 59 (int) -> bool; 100 {a: int}; 102 int; 101 any; 112 int; 107 nil | int"
	if got := strings.Join(b, "; "); got != want {
		t.Error(got)
	}
}

// P13.3
func TestPlain(t *testing.T) {
	if !check.Plain(api.Elab{}) || check.Plain(api.Elab{Loose: []int{1}}) || check.Plain(api.Elab{Casts: make([]api.Cast, 1)}) {
		t.Error("plain")
	}
}

// P13.4
func TestBlame(t *testing.T) {
	for _, s := range []string{"local t: any = 1 local n: int = t", "local f: (any) -> any = function(x: int): int return x end", "local x local s: {a: int} = {} local f: () -> int = x", "local f: ({a: any}) -> nil = function(t: {a: int}): nil end pcall(f)"} {
		_, e, _, err := check.Source(s)
		if err != api.OK {
			continue
		}
		for _, c := range e.Casts {
			side := c.From
			if c.Side == 2 {
				side = c.To
			}
			if !relate.Ease(c.From, c.To) || relate.Sub(c.From, c.To) || c.Side < 1 || c.Side > 2 || !types.Vague(side) {
				t.Error(s, c)
			}
		}
	}
}

// P13.5
func TestBare(t *testing.T) {
	l, _, _ := parse.Program("local x: int = \"a\" + 1 function f(a: {b: {}}): int end x.y = f()")
	e, at, err := check.Bare(l)
	s, _, _ := scope.Program(l)
	if err != api.OK || at != 0 || len(e.Vars) != 3 || len(e.Types) != len(l) || !check.Plain(e) || !slices.Equal(e.Scope.Uses, s.Uses) {
		t.Fatal(at, err, e)
	}
	for _, x := range slices.Concat(e.Vars, e.Types) {
		if !types.Same(x, api.Type{}) {
			t.Error(x)
		}
	}
	l, _, _ = parse.Program("local x = y")
	if e, at, err := check.Bare(l); err != api.ErrScope || l[at].Kind != api.NName || len(e.Types) != 0 {
		t.Error(at, err)
	}
	if _, at, err := check.Bare(nil); at != 0 || err != api.ErrTree {
		t.Error(at, err)
	}
	if _, at, err := check.Tree([]api.Node{{Kind: api.NNil}}); at != 0 || err != api.ErrTree {
		t.Error(at, err)
	}
}

// P2: no two types of an answer share anything, nor do calls.
func TestShared(t *testing.T) {
	s := "local x: {a: int | nil} = {a = 1} local y = x local z: {a: any} = y local w: {a: any} = y"
	l, e := taken(t, s)
	all := func(e api.Elab) []api.Type {
		all := slices.Concat(e.Vars, e.Types)
		for _, c := range e.Casts {
			all = append(all, c.From, c.To)
		}
		return all
	}
	for n := range all(e) {
		_, e := taken(t, s)
		_, same := taken(t, s)
		changed, kept := all(e), all(same)
		if len(changed[n].Args) == 0 {
			continue
		}
		changed[n].Args[0].Kind = 99
		changed[n].Names[0] = "z"
		for m := range changed {
			if m != n && !types.Same(changed[m], kept[m]) {
				t.Error(n, m, len(l))
			}
		}
	}
}
