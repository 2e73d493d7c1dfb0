package parse_test

import (
	"math/rand"
	"strconv"
	"strings"
	"testing"

	"ravelin/api"
	"ravelin/parse"
	"ravelin/tree"
)

var names = strings.Fields("? program channel block local function assign do if while return break none nil bool int str name field index call builtin func param table named item bin un and or tname tshape tfield tfunc tunion tbound")

// brief writes a node and what is below it: kind, text, @place, kids in brackets.
func brief(l []api.Node, n int, places bool) string {
	s := names[l[n].Kind]
	if l[n].Text != "" {
		s += ":" + l[n].Text
	}
	if places {
		s += "@" + strconv.Itoa(l[n].At)
	}
	if len(l[n].Kids) == 0 {
		return s
	}
	var kids []string
	for _, k := range l[n].Kids {
		kids = append(kids, brief(l, k, places))
	}
	return s + "(" + strings.Join(kids, " ") + ")"
}

func parsed(t *testing.T, s string) []api.Node {
	t.Helper()
	l, at, e := parse.Program(s)
	if e != api.OK || at != 0 {
		t.Fatalf("%q: %d %d", s, at, e)
	}
	if n, e := tree.Check(l); e != api.OK {
		t.Fatalf("%q: tree.Check says %d %d", s, n, e)
	}
	return l
}

// block tells the kids of a program's block.
func block(t *testing.T, s string, places bool) string {
	t.Helper()
	l := parsed(t, s)
	b := brief(l, len(l)-2, places)
	b = strings.TrimPrefix(b, "block")
	if !places {
		b = strings.TrimSuffix(strings.TrimPrefix(b, "("), ")")
	}
	return b
}

// P7.1: shapes of trees.
func TestTrees(t *testing.T) {
	for s, want := range map[string]string{
		"":                 "",
		"local x":          "local:x(none none)",
		"local x: int = 1": "local:x(tname:int int:1)",
		"local x: int @ 3": "local:x(tbound:3(tname:int) none)",
		"function f() end": "function:f(func(none block))",
		"function f(a, b: int @ -1): string return end": "function:f(func(param:a(none) param:b(tbound:-1(tname:int)) tname:string block(return(none))))",
		"x = 1":                                  "assign(name:x int:1)",
		"x.y[1].z = 2":                           "assign(field:z(index(field:y(name:x) int:1)) int:2)",
		"f()":                                    "do(call(name:f))",
		"f(1, 2)(3).g()":                         "do(call(field:g(call(call(name:f int:1 int:2) int:3))))",
		"read(0)":                                "do(builtin:read(int:0))",
		"read(0).x = 1":                          "assign(field:x(builtin:read(int:0)) int:1)",
		"read((7))":                              "do(builtin:read(int:7))",
		"write(0x3, nil)":                        "do(builtin:write(int:3 nil))",
		"if a then end":                          "if(name:a block none)",
		"if a then else end":                     "if(name:a block block)",
		"if a then elseif b then else x = 1 end": "if(name:a block block(if(name:b block block(assign(name:x int:1)))))",
		"if a then elseif b then end":            "if(name:a block block(if(name:b block none)))",
		"while a do break end":                   "while(name:a block(break))",
		"return":                                 "return(none)",
		"return 1":                               "return(int:1)",
		"break":                                  "break",
		"local x = y (z)()":                      "local:x(none call(call(name:y name:z)))",
		"local x = function() end (1)":           "local:x(none call(func(none block) int:1))",
		"local x = \"a\".b":                      "local:x(none field:b(str:a))",
		"local t: {} t.type = 1":                 "local:t(tshape none) assign(field:type(name:t) int:1)",
		"local t: {a: int, b: {c: nil}}":         "local:t(tshape(tfield:a(tname:int) tfield:b(tshape(tfield:c(tname:nil)))) none)",
		"local f: (int, any) -> () -> int | nil": "local:f(tfunc(tname:int tname:any tfunc(tunion(tname:int tname:nil))) none)",
		"local f: {} | table | thread":           "local:f(tunion(tshape tname:table tname:thread) none)",
	} {
		if got := block(t, s, false); got != want {
			t.Errorf("%q: %s", s, got)
		}
	}
}

// P7.1: expressions.
func TestExpressions(t *testing.T) {
	for s, want := range map[string]string{
		"1 + 2 * 3":          "bin:+(int:1 bin:*(int:2 int:3))",
		"1 - 2 - 3":          "bin:-(bin:-(int:1 int:2) int:3)",
		"(1 - 2) - (3 - 4)":  "bin:-(bin:-(int:1 int:2) bin:-(int:3 int:4))",
		"a .. b .. c":        "bin:..(bin:..(name:a name:b) name:c)",
		"a < b < c == d":     "bin:==(bin:<(bin:<(name:a name:b) name:c) name:d)",
		"a or b and c or d":  "or(or(name:a and(name:b name:c)) name:d)",
		"not a == b":         "bin:==(un:not(name:a) name:b)",
		"-a * b":             "bin:*(un:-(name:a) name:b)",
		"- - a":              "un:-(un:-(name:a))",
		"-#a.b":              "un:-(un:#(field:b(name:a)))",
		"a .. b + c":         "bin:..(name:a bin:+(name:b name:c))",
		"a + b .. c ~= d":    "bin:~=(bin:..(bin:+(name:a name:b) name:c) name:d)",
		"a // b % c >= d":    "bin:>=(bin:%(bin://(name:a name:b) name:c) name:d)",
		"2 * -3":             "bin:*(int:2 un:-(int:3))",
		"{}":                 "table",
		"{1, a = 2; b,}":     "table(item(int:1) named:a(int:2) item(name:b))",
		"{read = 1}":         "table(named:read(int:1))",
		"{a == b; }":         "table(item(bin:==(name:a name:b)))",
		"{(a)}":              "table(item(name:a))",
		"0xff":               "int:255",
		"007":                "int:7",
		"nil":                "nil",
		"true and false":     "and(bool:true bool:false)",
		"type(type(1))":      "builtin:type(builtin:type(int:1))",
		"key(t, 1)":          "builtin:key(name:t int:1)",
		"function(a) end":    "func(param:a(none) none block)",
		"(function() end)()": "call(func(none block))",
		"a[b][c]":            "index(index(name:a name:b) name:c)",
	} {
		if got := block(t, "return "+s, false); got != "return("+want+")" {
			t.Errorf("%q: %s", s, got)
		}
	}
}

// P7.1: places in the text.
func TestPlaces(t *testing.T) {
	for s, want := range map[string]string{
		" return 1 + 2 * 3":           "@1(return@1(bin:+@10(int:1@8 bin:*@14(int:2@12 int:3@16))))",
		"":                            "@0",
		"  ":                          "@2",
		"x = (1)":                     "@0(assign@2(name:x@0 int:1@5))",
		"a.b[1](2)()":                 "@0(do@9(call@9(call@6(index@3(field:b@1(name:a@0) int:1@4) int:2@7))))",
		"local x: int | nil @ 1":      "@0(local:x@0(tbound:1@19(tunion@9(tname:int@9 tname:nil@15)) none@0))",
		"function f(a): any end":      "@0(function:f@0(func@0(param:a@11(none@0) tname:any@15 block@19)))",
		"return function() end":       "@0(return@0(func@7(none@0 block@18)))",
		"if a then elseif b then end": "@0(if@0(name:a@3 block@10 block@10(if@10(name:b@17 block@24 none@0))))",
		"while a do end":              "@0(while@0(name:a@6 block@11))",
		"return {a = 1, (b)}":         "@0(return@0(table@7(named:a@8(int:1@12) item@15(name:b@16))))",
		"write(0, not a or b)":        "@0(do@0(builtin:write@0(int:0@6 or@15(un:not@9(name:a@13) name:b@18))))",
		"local f: ({a: int}) -> nil":  "@0(local:f@0(tfunc@9(tshape@10(tfield:a@11(tname:int@14)) tname:nil@23) none@0))",
		"break":                       "@0(break@0)",
		"return a and b":              "@0(return@0(and@9(name:a@7 name:b@13)))",
	} {
		if got := block(t, s, true); got != want {
			t.Errorf("%q: %s", s, got)
		}
	}
}

// P7.1: nodes are laid as the parts end.
func TestOrder(t *testing.T) {
	for s, want := range map[string]string{
		"write(0, 1 + 2 * 3)":                          "int int int int bin bin builtin do block program",
		"local x":                                      "none none local block program",
		"if a then elseif b then f() end":              "name block name name call do block none if block if block program",
		"function f(a: int) return end":                "tname param none none return block func function block program",
		"channel 0 = 1 local x: {a: int} = {1, b = 2}": "channel tname tfield tshape int item int named table local block program",
	} {
		var kinds []string
		for _, n := range parsed(t, s) {
			kinds = append(kinds, names[n.Kind])
		}
		if got := strings.Join(kinds, " "); got != want {
			t.Errorf("%q: %s", s, got)
		}
	}
}

// P7.1: channels and masks.
func TestChannels(t *testing.T) {
	l := parsed(t, "channel 1 = 5 channel 0 = -1 channel 7 = 0xffffffffffffffff channel 0x6 = -0x7fffffffffffffff channel 2 = 0x8000000000000000 channel 3 = -0")
	for n, want := range []string{"1 5", "0 -1", "7 -1", "6 -9223372036854775807", "2 -9223372036854775808", "3 0"} {
		if l[n].Text != want || l[n].Kind != api.NChannel {
			t.Error(l[n])
		}
	}
	if l[1].At != 14 {
		t.Error(l[1])
	}
}

// P7.1: the first place that may not be.
func TestWrong(t *testing.T) {
	for _, x := range []struct {
		s  string
		at int
	}{
		{"local", 5}, {"local 1", 6}, {"local read", 6}, {"function type() end", 9}, {"function f(key) end", 11}, {"local x =", 9}, {"local x: = 1", 9}, {"local x: foo", 9}, {"local x: \"nil\"", 9},
		{"x", 0}, {"x y", 0}, {"x )", 0}, {"a.b 1", 0}, {"f() = 1", 4}, {"read(0) = 1", 8}, {"x == 1", 0}, {"f() g", 4}, {"a.read", 0}, {"a[1]", 0},
		{"read", 0}, {"return type", 7}, {"return type + 1", 7}, {"read()", 0}, {"read(8)", 0}, {"read(x)", 0}, {"read(0, 1)", 0}, {"write(0)", 0}, {"return read(-1)", 7}, {"type()", 0}, {"read(", 5}, {"read(1 2)", 7}, {"f(read(\"0\"))", 2},
		{"read(8", 6}, {"write(x, y z)", 11},
		{"1 = 2", 0}, {"(f)()", 0}, {"nil", 0}, {"end", 0}, {"return 1 2", 9}, {"return return", 7}, {"break x = 1", 6}, {"return local", 7}, {"channel 8 = 1", 8}, {"channel 0xffffffffffffffff = 1", 8}, {"channel 1 = 1 channel 1 = 1", 22},
		{"channel 1 1", 10}, {"channel 1 = x", 12}, {"channel 1 = --1", 15}, {"channel 1 = - 0x8000000000000000", 14}, {"x = 1 channel 1 = 1", 6}, {"channel x = 1", 8},
		{"return 0x8000000000000000", 7}, {"if a end", 5}, {"if a then", 9}, {"if a then else elseif b then end", 15}, {"while a then end", 8}, {"while do end", 6}, {"if then end", 3},
		{"return {a = 1 b = 2}", 14}, {"return {,}", 8}, {"return {1,,}", 10}, {"return {[1] = 2}", 8}, {"return (1", 9}, {"return ()", 8}, {"return f(1,)", 11}, {"return a.1", 9}, {"return a.", 9}, {"return a.and", 9}, {"return a[]", 9},
		{"local x: {a: int, a: int}", 18}, {"local x: {a: int,}", 17}, {"local x: int | (int) -> int", 15}, {"local x: (int)", 14}, {"local x: (int,) -> int", 14}, {"local x: int @", 14}, {"local x: int @ a", 15}, {"local f: (int @ 1) -> int", 14},
		{"function f(): int @ 1 end", 18}, {"function f end", 11}, {"function f(a b) end", 13}, {"function f(a,) end", 13}, {"function f(a.b) end", 12}, {"function a.b() end", 10}, {"return \"=\" = 1", 11}, {"return function f() end", 16},
	} {
		if l, at, e := parse.Program(x.s); len(l) != 0 || at != x.at || e != api.ErrSyntax {
			t.Errorf("%q: %d %d, not %d", x.s, at, e, x.at)
		}
	}
	for s, want := range map[string]api.Errno{"x = 1a": api.ErrNumber, "local ! \"": api.ErrToken, "read \"": api.ErrQuote} {
		if _, _, e := parse.Program(s); e != want {
			t.Errorf("%q: %d", s, e)
		}
	}
	if _, at, e := parse.Program(strings.Repeat(" ", api.MaxSource+1)); at != 0 || e != api.ErrLong {
		t.Error(at, e)
	}
}

// P7.1: what may be open, and what is too deep or long.
func TestDeep(t *testing.T) {
	again := strings.Repeat
	for _, x := range []struct {
		s  string
		at int
		e  api.Errno
	}{
		{"return " + again("(", 150) + "1" + again(")", 150), 0, api.OK},
		{"return " + again("(", 151) + "1", 157, api.ErrDeep},
		{"return " + again("(", 151), 157, api.ErrDeep},
		{"return " + again("(", 150), 157, api.ErrSyntax},
		{"return " + again("- ", 151) + "1", 307, api.ErrDeep},
		{"return " + again("- ", 150) + "1", 0, api.OK},
		{"return " + again("not ", 151), 607, api.ErrDeep},
		{"return " + again("#", 100) + again("{", 51), 157, api.ErrDeep},
		{"return " + again("a[", 151), 308, api.ErrDeep},
		{"return " + again("f(", 151), 308, api.ErrDeep},
		{"return " + again("type(", 151), 7 + 5*150 + 4, api.ErrDeep},
		{again("if a then ", 151), 1500, api.ErrDeep},
		{again("while a do ", 151), 1650, api.ErrDeep},
		{"if a then " + again("elseif a then ", 150), 10 + 149*14, api.ErrDeep},
		{again("function f() ", 151), 1950, api.ErrDeep},
		{again("function f() ", 150) + "function read() ", 1959, api.ErrSyntax},
		{again("function f() ", 150) + "function 1() ", 1959, api.ErrSyntax},
		{again("function f() ", 149) + "local x: {} = function(", 1937 + 23, api.ErrSyntax},
		{"local x: " + again("{a: ", 151), 9 + 600, api.ErrDeep},
		{"local x: " + again("() -> ", 151), 9 + 900, api.ErrDeep},
		{"local x: " + again("() -> ", 150) + "int", 0, api.OK},
		{"return f" + again("()", 196), 0, api.OK},
		{"return f" + again("()", 197), 0, api.ErrDeep},
		{"return 1" + again(" + 1", 300), 0, api.ErrDeep},
		{again("f()", 16667), 0, api.ErrLong},
		{again("f()", 16667) + " )", 50002, api.ErrSyntax},
		{"return 1" + again("+1", 30000), 0, api.ErrLong},
		{again("f()", 16666), 0, api.OK},
	} {
		if _, at, e := parse.Program(x.s); at != x.at || e != x.e {
			t.Errorf("%.30q: %d %d, not %d %d", x.s, at, e, x.at, x.e)
		}
	}
}

// P1, P7.2: what tokens may be put together, the tree is one.
func TestAnyTokens(t *testing.T) {
	words := strings.Fields(`x y f 1 0 "s" = = ( ) ( ) { } [ ] , : . + - not # and or == .. if then else elseif end end while do function local local return break nil true read write type int any | -> @ channel 2`)
	r := rand.New(rand.NewSource(8))
	taken := 0
	for range 60000 {
		var b []string
		for range 1 + r.Intn(9) {
			b = append(b, words[r.Intn(len(words))])
		}
		s := strings.Join(b, " ")
		l, at, e := parse.Program(s)
		if at < 0 || at > len(s) {
			t.Errorf("%q: %d", s, at)
		}
		if e != api.OK {
			continue
		}
		taken++
		if n, e := tree.Check(l); e != api.OK {
			t.Errorf("%q: %d %d", s, n, e)
		}
	}
	if taken < 100 {
		t.Error(taken)
	}
}
