package show_test

import (
	"math"
	"math/rand"
	"strings"
	"testing"

	"ravelin/api"
	"ravelin/parse"
	"ravelin/show"
	"ravelin/tree"
)

func written(t *testing.T, s string) string {
	t.Helper()
	l, at, e := parse.Program(s)
	if e != api.OK {
		t.Fatalf("%q: %d %d", s, at, e)
	}
	text, e := show.Program(l)
	if e != api.OK {
		t.Fatalf("%q: %d", s, e)
	}
	return text
}

// P8.1: statements, each as it is written.
func TestStatements(t *testing.T) {
	for s, want := range map[string]string{
		"":                    "",
		"local   x:int=1+2*3": "local x: int = 1 + 2 * 3\n",
		"local x local y=1":   "local x\nlocal y = 1\n",
		"channel 1=5 channel 0=-0x1 channel 2=0x8000000000000000 x=1": "channel 1 = 5\nchannel 0 = -1\nchannel 2 = 0x8000000000000000\nx = 1\n",
		"local x:int@0xffffffffffffffff":                              "local x: int @ -1\n",
		"local x:int@0x8000000000000000":                              "local x: int @ 0x8000000000000000\n",
		"function f(a,b:int@1):string return a end":                   "function f(a, b: int @ 1): string\n  return a\nend\n",
		"function f()end":                                             "function f()\nend\n",
		"x.y[1]=f(2)f(1,2)":                                           "x.y[1] = f(2)\nf(1, 2)\n",
		"if a then end":                                               "if a then\nend\n",
		"if a then else end":                                          "if a then\nelse\nend\n",
		"if a then x=1 elseif b then y=2 else z=3 end":                "if a then\n  x = 1\nelse\n  if b then\n    y = 2\n  else\n    z = 3\n  end\nend\n",
		"while a do if b then break end end":                          "while a do\n  if b then\n    break\n  end\nend\n",
		"return":                                                      "return\n",
		"local f=function(a:int,b):nil x=1 end return f":              "local f = function(a: int, b): nil\n  x = 1\nend\nreturn f\n",
		"if a then g(function() return 1 end,function() h(function()end) end) end": "if a then\n  g(function()\n    return 1\n  end, function()\n    h(function()\n    end)\n  end)\nend\n",
		"local x:{a:int,b:nil|{}}":                "local x: {a: int, b: nil | {}}\n",
		"local x:(int,(any)->nil)->()->int|nil@3": "local x: (int, (any) -> nil) -> () -> int | nil @ 3\n",
		"local x:{}": "local x: {}\n",
	} {
		if got := written(t, s); got != want {
			t.Errorf("%q: %q", s, got)
		}
	}
}

// P8.1: brackets stand just where they must.
func TestBrackets(t *testing.T) {
	for s, want := range map[string]string{
		"((1+2))*3":          "(1 + 2) * 3",
		"1+(2*3)":            "1 + 2 * 3",
		"(1-2)-3":            "1 - 2 - 3",
		"1-(2-3)":            "1 - (2 - 3)",
		"a..(b..c)":          "a .. (b .. c)",
		"(a..b)..c":          "a .. b .. c",
		"a<(b<c)":            "a < (b < c)",
		"(a<b)<c":            "a < b < c",
		"(a or b)and c":      "(a or b) and c",
		"a or(b and c)":      "a or b and c",
		"a or(b or c)":       "a or (b or c)",
		"a and(b and c)":     "a and (b and c)",
		"not(a==b)":          "not (a == b)",
		"(not a)==b":         "not a == b",
		"-(-a)":              "- -a",
		"-(not a)":           "-not a",
		"- - -a":             "- - -a",
		"-#a":                "-#a",
		"-(a*b)":             "-(a * b)",
		"a*(-b)":             "a * -b",
		"(-a)*b":             "-a * b",
		"(-a).b":             "(-a).b",
		"-(a.b)":             "-a.b",
		"#(a..b)":            "#(a .. b)",
		"(a+b)(c)":           "(a + b)(c)",
		"(function()end)()":  "(function()\nend)()",
		"(function()end).x":  "(function()\nend).x",
		"(a)(b)":             "a(b)",
		"(nil).x":            "nil.x",
		"(true)[1]":          "true[1]",
		"(1).x":              "1.x",
		"(\"a\")(1)":         "\"a\"(1)",
		"({})[1]":            "{}[1]",
		"(type(a)).x":        "type(a).x",
		"(a and b).x":        "(a and b).x",
		"(not a).x":          "(not a).x",
		"{a=1;(b),c==d,}":    "{a = 1, b, c == d}",
		"{}":                 "{}",
		"\"\\n\\x00\\\"\"":   "\"\\n\\x00\\\"\"",
		"0x10":               "16",
		"a[b][(c)]":          "a[b][c]",
		"function()end==nil": "function()\nend == nil",
		"key(a,(1))":         "key(a, 1)",
		"a%(b//c)":           "a % (b // c)",
		"a+b~=c-d":           "a + b ~= c - d",
	} {
		if got := written(t, "return "+s); got != "return "+want+"\n" {
			t.Errorf("%q: %q", s, got)
		}
	}
}

// P8.1: what is no tree is told as tree.Check does.
func TestNoTree(t *testing.T) {
	for _, l := range [][]api.Node{nil, {{Kind: api.NNil}}, make([]api.Node, api.MaxNodes+1)} {
		_, want := tree.Check(l)
		if s, e := show.Program(l); s != "" || e != want {
			t.Error(s, e)
		}
	}
}

// P8.2
func TestLisp(t *testing.T) {
	for _, x := range []struct {
		l    []api.Node
		want string
	}{
		{nil, ""},
		{[]api.Node{{Kind: 13}}, "(13 @0)"},
		{[]api.Node{{Kind: 99, Text: "a\"\n", At: 7}, {Kind: -1, At: -5, Kids: []int{0, 1, -1, 0}}}, `(-1 @-5 (99 "a\"\n" @7) ? ? (99 "a\"\n" @7))`},
		{[]api.Node{{Kind: 1}, {Kind: math.MinInt}}, "(-9223372036854775808 @0)"},
	} {
		if got := show.Lisp(x.l); got != x.want {
			t.Errorf("%q, not %q", got, x.want)
		}
	}
	l := []api.Node{{Kind: 1}}
	for n := range 3000 {
		l = append(l, api.Node{Kind: 2, Kids: []int{n, n}})
	}
	if got := show.Lisp(l); len(got) != 100000 || !strings.HasPrefix(got, "(2 @0 (2 @0 (2 @0 ") {
		t.Error(len(got))
	}
	if got := show.Lisp([]api.Node{{Kind: 16, Text: strings.Repeat("a", 200000)}}); len(got) != 100000 || got[:6] != `(16 "a` {
		t.Error(len(got))
	}
	for n := range 12 {
		long := []api.Node{{Kind: 16, Text: strings.Repeat("a", 99986+n)}}
		want := `(16 "` + strings.Repeat("a", 99986+n) + `" @0)`
		if got := show.Lisp(long); got != want[:min(len(want), 100000)] {
			t.Error(n, len(got))
		}
	}
}

// clear takes the places away.
func clear(l []api.Node) []api.Node {
	var c []api.Node
	for _, n := range l {
		n.At = 0
		c = append(c, n)
	}
	return c
}

// P8.3: what tokens come to, written and read again.
func TestReadAgain(t *testing.T) {
	words := strings.Fields(`x y f 1 0 "s" = = ( ) ( ) ( ) { } [ ] , . + - - * // not not # and or .. == < if then elseif else end end while do function( ) local local return nil type type( f( int any | -> {a= @`)
	r := rand.New(rand.NewSource(9))
	taken := 0
	for range 150000 {
		b := []string{"return"}
		if r.Intn(4) == 0 {
			b = nil
		}
		for range 1 + r.Intn(10) {
			b = append(b, words[r.Intn(len(words))])
		}
		l, _, e := parse.Program(strings.Join(b, " "))
		if e != api.OK {
			continue
		}
		taken++
		text, e := show.Program(l)
		again, at, e2 := parse.Program(text)
		if e != api.OK || e2 != api.OK || show.Lisp(clear(l)) != show.Lisp(clear(again)) {
			t.Errorf("%q: %q %d %d %d", b, text, e, at, e2)
		}
		if twice, _ := show.Program(again); twice != text {
			t.Errorf("%q: %q", text, twice)
		}
	}
	if taken < 500 {
		t.Error(taken)
	}
}
