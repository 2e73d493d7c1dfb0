package relate_test

import (
	"math/rand"
	"testing"

	"ravelin/api"
	"ravelin/parse"
	"ravelin/relate"
	"ravelin/types"
)

// ty reads a type.
func ty(s string) api.Type {
	l, _, e := parse.Program("local x: " + s)
	if e != api.OK {
		panic(s)
	}
	for _, n := range l {
		if n.Kind == api.NLocal {
			t, _, e := types.Of(l, n.Kids[0])
			if e != api.OK {
				panic(s)
			}
			return t
		}
	}
	panic(s)
}

var bad = api.Type{Kind: api.TUnion}

type pair struct {
	a, b string
	want bool
}

func pairs(t *testing.T, name string, f func(a, b api.Type) bool, l []pair) {
	t.Helper()
	for _, x := range l {
		if f(ty(x.a), ty(x.b)) != x.want {
			t.Errorf("%s(%s, %s) is not %v", name, x.a, x.b, x.want)
		}
	}
	for _, good := range []string{"any", "int", "{}", "() -> int"} {
		if f(bad, ty(good)) || f(ty(good), bad) || f(bad, bad) {
			t.Errorf("%s of what is no type", name)
		}
	}
}

// P10.1
func TestSub(t *testing.T) {
	pairs(t, "Sub", relate.Sub, []pair{
		{"int", "int", true}, {"int", "int | nil", true}, {"int | nil", "int", false}, {"int", "string", false}, {"int", "any", true}, {"any", "any", true}, {"any", "int", false}, {"any", "nil | bool | int | string | table | thread", false},
		{"{a: int}", "table", true}, {"{a: int}", "nil | table", true}, {"{a: int}", "int", false}, {"table", "{a: int}", false}, {"table", "{}", false}, {"{}", "any", true},
		{"{a: int, b: int}", "{a: int}", true}, {"{a: int}", "{a: int, b: int}", false}, {"{a: int}", "{a: int | nil}", false}, {"{a: int}", "{a: any}", false}, {"{a: any}", "{a: any}", true}, {"{a: int}", "{}", true},
		{"() -> int", "() -> int | nil", true}, {"() -> int | nil", "() -> int", false}, {"(int | nil) -> nil", "(int) -> nil", true}, {"(int) -> nil", "(int | nil) -> nil", false}, {"(int) -> nil", "() -> nil", false}, {"(int) -> int", "(any) -> int", false}, {"(any) -> int", "(int) -> int", true},
		{"() -> int", "table", false}, {"() -> int", "{}", false}, {"{}", "() -> int", false}, {"() -> int", "any", true}, {"any", "() -> int", false}, {"((int) -> nil) -> nil", "((int | nil) -> nil) -> nil", true}, {"((int | nil) -> nil) -> nil", "((int) -> nil) -> nil", false},
		{"nil | bool | int | string | table | thread", "any", true},
	})
}

// P10.2
func TestEase(t *testing.T) {
	pairs(t, "Ease", relate.Ease, []pair{
		{"any", "int", true}, {"int", "any", true}, {"any", "() -> int", true}, {"int", "int | nil", true}, {"int | nil", "int", false}, {"table", "{a: int}", true}, {"nil | table", "{a: int}", false}, {"{a: int}", "table", true},
		{"{a: any}", "{a: int}", true}, {"{a: int}", "{a: any}", true}, {"{a: int}", "{a: int | nil}", false}, {"{a: any}", "{b: int}", false}, {"{a: any, b: int}", "{a: int}", true}, {"{a: table}", "{a: int}", false}, {"{}", "{a: int}", false},
		{"(int) -> int", "(any) -> any", true}, {"(int) -> int", "(string) -> int", false}, {"(int) -> table", "(any) -> {a: int}", true}, {"({a: int}) -> nil", "(table) -> nil", true}, {"() -> int", "(int) -> int", false}, {"() -> int", "int", false}, {"string", "{}", false},
	})
}

// P10.3
func TestPrecise(t *testing.T) {
	pairs(t, "Precise", relate.Precise, []pair{
		{"int", "int", true}, {"int", "any", true}, {"any", "int", false}, {"any", "any", true}, {"int", "int | nil", false}, {"{a: int}", "table", true}, {"table", "{a: int}", false}, {"table", "table", true}, {"{a: int}", "nil | table", false},
		{"{a: int}", "{a: any}", true}, {"{a: any}", "{a: int}", false}, {"{a: int, b: int}", "{a: int}", false}, {"{a: int, b: any}", "{a: any, b: int}", false}, {"{}", "{}", true},
		{"(int) -> int", "(any) -> any", true}, {"(any) -> int", "(int) -> any", false}, {"(int) -> int", "() -> int", false}, {"({a: int}) -> int", "(table) -> any", true}, {"() -> int", "table", false}, {"() -> int", "any", true},
	})
}

// P10.4
func TestMeet(t *testing.T) {
	for _, x := range []struct{ a, b, want string }{
		{"int", "int", "int"}, {"any", "int", "int"}, {"int", "any", "int"}, {"any", "any", "any"}, {"table", "{a: int}", "{a: int}"}, {"{a: int}", "table", "{a: int}"}, {"table", "table", "table"}, {"{a: int, b: any}", "{a: any, b: nil | int}", "{a: int, b: nil | int}"},
		{"(any, int) -> any", "(string, any) -> {a: int}", "(string, int) -> {a: int}"}, {"(table) -> table", "({a: any}) -> any", "({a: any}) -> table"}, {"((any) -> int) -> nil", "((nil) -> any) -> any", "((nil) -> int) -> nil"},
		{"int", "string", ""}, {"int", "int | nil", ""}, {"{a: int}", "{a: string}", ""}, {"{a: int}", "{a: int, b: int}", ""}, {"() -> int", "(int) -> int", ""}, {"() -> int", "table", ""}, {"nil | table", "{a: int}", ""}, {"(int, any) -> any", "(string, any) -> any", ""},
	} {
		for _, sides := range [][2]string{{x.a, x.b}, {x.b, x.a}} {
			got, is := relate.Meet(ty(sides[0]), ty(sides[1]))
			if is != (x.want != "") || is && types.Show(got) != x.want || !is && !types.Same(got, api.Type{}) {
				t.Error(sides, types.Show(got), is)
			}
		}
	}
	if got, is := relate.Meet(bad, bad); is || !types.Same(got, api.Type{}) {
		t.Error(got)
	}
}

// P10.5
func TestJoin(t *testing.T) {
	for _, x := range []struct{ a, b, want string }{
		{"int", "int", "int"}, {"int", "int | nil", "nil | int"}, {"int", "string", "int | string"}, {"any", "int", "any"}, {"{a: int}", "table", "table"}, {"{a: int, b: int}", "{a: int}", "{a: int}"}, {"{a: int}", "{b: int}", "any"}, {"{a: int}", "nil", "any"},
		{"nil | bool | int", "string | table | thread", "any"}, {"() -> int", "() -> nil | int", "() -> nil | int"}, {"() -> int", "() -> string", "any"}, {"() -> int", "int", "any"}, {"nil | int", "int | string", "nil | int | string"},
	} {
		for _, sides := range [][2]string{{x.a, x.b}, {x.b, x.a}} {
			if got := types.Show(relate.Join(ty(sides[0]), ty(sides[1]))); got != x.want {
				t.Error(sides, got)
			}
		}
	}
	if !types.Same(relate.Join(bad, ty("int")), api.Type{}) || !types.Same(relate.Join(ty("int"), bad), api.Type{}) {
		t.Error("of what is no type")
	}
}

// P10.6
func TestSide(t *testing.T) {
	for _, x := range []struct {
		a, b string
		want int
	}{{"any", "int", 1}, {"int", "any", 2}, {"any", "any", 1}, {"int", "int", 0}, {"{a: table}", "int", 1}, {"() -> int", "(int) -> table", 2}, {"int", "string", 0}} {
		if got := relate.Side(ty(x.a), ty(x.b)); got != x.want {
			t.Error(x, got)
		}
	}
	if relate.Side(bad, ty("any")) != 0 || relate.Side(ty("any"), bad) != 0 {
		t.Error("of what is no type")
	}
}

// P2: answers share nothing with arguments.
func TestShared(t *testing.T) {
	a, b := ty("{a: int, b: nil | int}"), ty("table")
	m, _ := relate.Meet(a, b)
	j := relate.Join(a, a)
	m.Names[0], m.Args[1].Args[0].Kind = "x", 5
	j.Names[0], j.Args[1].Args[0].Kind = "x", 5
	if types.Show(a) != "{a: int, b: nil | int}" {
		t.Error(types.Show(a))
	}
}

// some answers a random type.
func some(r *rand.Rand, deep int) api.Type {
	flat := []string{"any", "nil", "int", "table", "nil | int", "int | string", "nil | table", "{}", "{a: int}", "{a: any}", "{a: table, b: int}", "{a: int, b: any}"}
	if deep == 0 || r.Intn(2) == 0 {
		return ty(flat[r.Intn(len(flat))])
	}
	t := api.Type{Kind: api.TFunc}
	for range 1 + r.Intn(2) {
		t.Args = append(t.Args, some(r, deep-1))
	}
	return t
}

// P10.7
func TestBlame(t *testing.T) {
	r := rand.New(rand.NewSource(11))
	for range 20000 {
		a, b, c := some(r, 2), some(r, 2), some(r, 2)
		if relate.Sub(a, b) && (!relate.Ease(a, b) || relate.Sub(b, c) && !relate.Sub(a, c)) {
			t.Error(types.Show(a), types.Show(b), types.Show(c))
		}
		if relate.Precise(a, b) && relate.Precise(b, c) && !relate.Precise(a, c) {
			t.Error(types.Show(a), types.Show(b), types.Show(c))
		}
		if relate.Ease(a, b) && !relate.Sub(a, b) && relate.Side(a, b) == 0 {
			t.Error(types.Show(a), types.Show(b))
		}
		if m, is := relate.Meet(a, b); is && (!relate.Precise(m, a) || !relate.Precise(m, b)) || !is && relate.Precise(c, a) && relate.Precise(c, b) {
			t.Error(types.Show(a), types.Show(b), types.Show(m))
		}
		if j := relate.Join(a, b); !relate.Sub(a, j) || !relate.Sub(b, j) {
			t.Error(types.Show(a), types.Show(b), types.Show(j))
		}
	}
}
