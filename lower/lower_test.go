package lower_test

import (
	"slices"
	"strconv"
	"strings"
	"testing"

	"ravelin/api"
	"ravelin/check"
	"ravelin/code"
	"ravelin/lower"
	"ravelin/parse"
	"ravelin/types"
	"ravelin/verify"
)

// compiled compiles a text that is taken; the verifier must take the image.
func compiled(t *testing.T, s string) api.Image {
	t.Helper()
	l, e, at, err := check.Source(s)
	if err != api.OK {
		t.Fatalf("%q: %d %d", s, at, err)
	}
	x, at, err := lower.Program(l, e)
	if err != api.OK || at != 0 {
		t.Fatalf("%.60q: %d %d", s, at, err)
	}
	if fn, word, err := verify.Check(x); err != api.OK {
		t.Fatalf("%q: verify says %d %d %d\n%s", s, fn, word, err, code.Show(x.Protos[fn]))
	}
	return x
}

// names tells a function's instructions by name.
func names(p api.Proto) string {
	var b []string
	for _, line := range strings.Split(strings.TrimSpace(code.Show(p)), "\n") {
		b = append(b, strings.Fields(line)[1])
	}
	return strings.Join(b, " ")
}

// P20.1, P19.2: the words of some programs.
func TestWords(t *testing.T) {
	for s, want := range map[string]string{
		"":                                             "const return",
		"write(0, 1)":                                  "const write const return",
		"return 1":                                     "const return const return",
		"local x = 1 local y = x + 1":                  "const const addi const return",
		"local x: any = 1 local y = x + 1":             "const const add const return",
		"local x = {a = 1} write(0, x.a)":              "table const setf stamp gets write const return",
		"local x = {} write(0, x.a)":                   "table getf write const return",
		"local t: any = 1 local n: int = t":            "const move cast const return",
		"local x: int @ 3 = 1":                         "const bound const return",
		"local x x = 1":                                "const const set const return",
		"local x function f() x = x end":               "const cell closure const return",
		"function f() f() end":                         "const cell closure setc const return",
		"if true then write(0, 1) end":                 "const brf join const write const return",
		"while true do break end":                      "const brf join jump jump const return",
		"local x = true and 1 local y = x or 2":        "const brf join const move brt join const const return",
		"local a = 1 > 2 local b = a ~= nil":           "const const lti const eq not const return",
		"local r = pcall(function() end)":              "closure pcall stamp const return",
		"local x = #\"\" local y = -x local z = not y": "const len neg not const return",
		"function f(a: int @ 1) end f(1)":              "closure move const call const return",
		"local x x()":                                  "const move call const return",
	} {
		if got := names(compiled(t, s).Protos[0]); got != want {
			t.Errorf("%q: %s", s, got)
		}
	}
	x := compiled(t, "local x function f(a: int @ 5, b) x = a return function() return b + x end end")
	if names(x.Protos[1]) != "bound cell setu closure return const return" || names(x.Protos[2]) != "getu getu add return const return" {
		t.Error(names(x.Protos[1]), names(x.Protos[2]))
	}
	if !slices.Equal(x.Protos[1].Ups, []api.Up{{Local: true}}) || !slices.Equal(x.Protos[2].Ups, []api.Up{{Local: true, N: 1}, {}}) {
		t.Error(x.Protos[1].Ups, x.Protos[2].Ups)
	}
}

// P20.1: joins stand where ways meet, a loose call is told, places are those of the text.
func TestPlaces(t *testing.T) {
	x := compiled(t, "local f if f then f(1) else return end")
	if got := code.Show(x.Protos[0]); !strings.Contains(got, "1: brf 0 7\n2: join -1\n") || !strings.Contains(got, "call 1 1 1") {
		t.Error(got)
	}
	x = compiled(t, "local t: any = 1 local n: int @ 3 = t write(0, n)")
	p := x.Protos[0]
	for n, line := range strings.Split(names(p), " ") {
		if line == "cast" && x.Casts[0].At != 36 || line == "bound" && p.Places[n] != 30 || line == "write" && p.Places[n] != 38 {
			t.Error(line, p.Places[n], x.Casts)
		}
	}
	if len(x.Casts) != 1 || x.Casts[0].Side != 1 || types.Show(x.Casts[0].To) != "int" {
		t.Error(x.Casts)
	}
}

// P20.2
func TestFunctions(t *testing.T) {
	x := compiled(t, "channel 2 = 5 channel 0 = -1 function f(a: int, b): string return \"\" end local g = function(): nil local h = function(x: {a: int}) end end")
	if x.Masks != [8]api.Label{0: ^api.Label(0), 2: 5} || len(x.Protos) != 4 {
		t.Fatal(x.Masks, len(x.Protos))
	}
	for n, want := range []string{"any", "int any string", "nil", "{a: int} any"} {
		var b []string
		for _, k := range x.Protos[n].Types {
			b = append(b, types.Show(k))
		}
		if strings.Join(b, " ") != want {
			t.Error(n, b)
		}
	}
	l, _, _ := parse.Program("function f(a: int): string end")
	e, _, _ := check.Bare(l)
	x, _, err := lower.Program(l, e)
	if err != api.OK || len(x.Protos[1].Types) != 2 || types.Show(x.Protos[1].Types[0]) != "any" || types.Show(x.Protos[1].Types[1]) != "any" {
		t.Error(err, x.Protos)
	}
}

// P20.1: other trees, other elaborations.
func TestOthers(t *testing.T) {
	if x, at, err := lower.Program([]api.Node{{Kind: api.NNil}}, api.Elab{}); at != 0 || err != api.ErrTree || len(x.Protos) != 0 {
		t.Error(at, err)
	}
	s := "local t: any = 1 local n: int = t n = t t()"
	l, e, _, _ := check.Source(s)
	if _, _, err := lower.Program(l, e); err != api.OK {
		t.Error(err)
	}
	for n, f := range []func(e *api.Elab){
		func(e *api.Elab) { *e = api.Elab{} }, func(e *api.Elab) { e.Scope.Vars[0].Set = true }, func(e *api.Elab) { e.Scope.Uses[0] = 3 }, func(e *api.Elab) { e.Scope.Funcs = nil }, func(e *api.Elab) { e.Scope.Ups[0] = 0 }, func(e *api.Elab) { e.Vars[0].Kind = 3 }, func(e *api.Elab) { e.Types[1].Kind = 9 },
		func(e *api.Elab) { e.Casts = e.Casts[:1] }, func(e *api.Elab) { e.Casts[0].Side = 2 }, func(e *api.Elab) { e.Casts[0].To.Kind = 0 }, func(e *api.Elab) { e.Casts[0].Node++ }, func(e *api.Elab) { e.Loose = nil }, func(e *api.Elab) { e.Casts[0].From.Args = make([]api.Type, 1) },
	} {
		_, e, _, _ := check.Source(s)
		f(&e)
		if x, at, err := lower.Program(l, e); at != len(l)-1 || err != api.ErrNone || len(x.Protos) != 0 {
			t.Error(n, at, err)
		}
	}
	bare, _, _ := check.Bare(l)
	if _, _, err := lower.Program(l, bare); err != api.OK {
		t.Error(err)
	}
	l, _, _ = parse.Program("local x: int = \"\"")
	bare, _, _ = check.Bare(l)
	if _, _, err := lower.Program(l, bare); err != api.OK {
		t.Error(err)
	}
}

// P20.1: what is too much, and what isn't quite.
func TestTooMuch(t *testing.T) {
	again := strings.Repeat
	var names strings.Builder
	for n := range 3000 {
		names.WriteString("a" + strconv.Itoa(n) + " = 1, ")
	}
	compiled(t, "local t = {"+names.String()+"} t.a2999 = t.a2998")
	compiled(t, again("write(0, 1) ", 8000))
	for _, s := range []string{again("write(0, function() end) ", 2001), again("f() ", 15500), "return f(" + again("1, ", 260) + "1)"} {
		s = "local f " + s
		l, e, at, err := check.Source(s)
		if err != api.OK {
			t.Fatal(at, err)
		}
		if x, at, err := lower.Program(l, e); err != api.ErrLong || at < 0 || at >= len(l) || len(x.Protos) != 0 {
			t.Errorf("%.40q: %d %d", s, at, err)
		}
	}
}

// record writes a record of so many fields, each with the value of x.
func record(many int) string {
	var b strings.Builder
	for n := range many {
		b.WriteString("n" + strconv.FormatInt(int64(n), 16) + "=x,")
	}
	return "{" + b.String() + "}"
}

// P20.1: a record whose type has more than 10,000 parts is compiled; it isn't stamped, and nothing is held to be what its type says.
func TestParts(t *testing.T) {
	use := " local y = t.n1 y = y + 1"
	for _, x := range []struct {
		s    string
		want string
		many int // shapes
	}{
		{"local x = 7 local t = " + record(9999) + use, "stamp gets const addi set const return", 1},
		{"local x = 7 local t = " + record(10000) + use, "seti getf const add set const return", 0},
		{"local x = 7 local t = " + record(12000) + use, "seti getf const add set const return", 0},
		{"local x = read(0) local t = " + record(3333) + " write(0, t.n1)", "stamp gets write const return", 1},
		{"local x = read(0) local t = " + record(3334) + " write(0, t.n1)", "seti getf write const return", 0},
		{"local s = {a = 1} local x = 7 local y = #" + record(10000) + " x = s.a", "seti len getf set const return", 1},
	} {
		image := compiled(t, x.s)
		if got := names(image.Protos[0]); !strings.HasSuffix(got, x.want) || len(image.Shapes) != x.many {
			t.Errorf("%.40q: %d shapes, %s", x.s, len(image.Shapes), got[max(0, len(got)-80):])
		}
	}
	x := compiled(t, "local x = 7 function f(a: int): int return a + 1 end local t = "+record(10000))
	if got := names(x.Protos[1]); got != "const add return const return" {
		t.Error(got)
	}
}

// P20.1: where there would be more words than may be, such a record is too much, too.
func TestPartsTooMany(t *testing.T) {
	var l []api.Node
	add := func(n api.Node) int { l = append(l, n); return len(l) - 1 }
	var entries []int
	for n := range 15500 {
		kid := add(api.Node{Kind: api.NNil})
		entries = append(entries, add(api.Node{Kind: api.NNamed, Text: "n" + strconv.Itoa(n), Kids: []int{kid}}))
	}
	none := add(api.Node{Kind: api.NNone})
	table := add(api.Node{Kind: api.NTable, Kids: entries})
	local := add(api.Node{Kind: api.NLocal, Text: "t", Kids: []int{none, table}})
	block := add(api.Node{Kind: api.NBlock, Kids: []int{local}})
	add(api.Node{Kind: api.NProgram, Kids: []int{block}})
	e, at, err := check.Tree(l)
	if err != api.OK {
		t.Fatal(at, err)
	}
	if x, at, err := lower.Program(l, e); err != api.ErrLong || at < 0 || at >= len(l) || len(x.Protos) != 0 {
		t.Error(at, err)
	}
}

// P2: two images of one program share nothing.
func TestShared(t *testing.T) {
	l, e, _, _ := check.Source("local x: any local y: {a: int} = x local z = {a = 1}")
	a, _, _ := lower.Program(l, e)
	b, _, _ := lower.Program(l, e)
	a.Casts[0].To.Names[0], a.Shapes[0].Args[0].Kind, a.Protos[0].Words[0], a.Protos[0].Types[0].Kind = "z", 5, 0, 3
	c, _, err := lower.Program(l, e)
	if err != api.OK || !code.Same(b, c) {
		t.Error(err)
	}
}
