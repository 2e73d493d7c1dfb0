package value_test

import (
	"math"
	"testing"

	"ravelin/api"
	"ravelin/value"
)

func in(n int64, l api.Label) api.Value    { return api.Value{Kind: api.Int, N: n, Label: l} }
func str(s string) api.Value               { return api.Value{Kind: api.Str, S: s} }
func of(kind int, n int64) api.Value       { return api.Value{Kind: kind, N: n} }
func truth(n int64, l api.Label) api.Value { return api.Value{Kind: api.Bool, N: n, Label: l} }

// P3.1
func TestTruthSame(t *testing.T) {
	for _, x := range []struct {
		v    api.Value
		want bool
	}{
		{api.Value{}, false}, {of(api.Bool, 0), false}, {of(api.Bool, 1), true}, {of(api.Bool, 2), true}, {in(0, 1), true}, {str(""), true},
		{of(api.Table, 0), true}, {of(-1, 0), true}, {of(9, 0), true},
	} {
		if value.Truth(x.v) != x.want {
			t.Error(x)
		}
	}
	if !value.Same(in(1, 2), in(1, 4)) || value.Same(in(1, 0), in(2, 0)) || value.Same(in(0, 0), of(api.Bool, 0)) || value.Same(str("a"), str("b")) || !value.Same(str("a"), str("a")) {
		t.Error("same")
	}
}

// P3.2
func TestTypeShow(t *testing.T) {
	names := []string{"nil", "bool", "int", "string", "table", "function", "thread"}
	for k, want := range names {
		if value.Type(of(k, 0)) != want {
			t.Error(k, value.Type(of(k, 0)))
		}
		if k == 0 || k > 3 {
			if value.Show(of(k, 5)) != want {
				t.Error(k, value.Show(of(k, 5)))
			}
		}
	}
	for _, k := range []int{-1, 7, math.MinInt, math.MaxInt} {
		if value.Type(of(k, 0)) != "?" || value.Show(of(k, 0)) != "?" {
			t.Error(k)
		}
	}
	if value.Show(of(api.Bool, 0)) != "false" || value.Show(of(api.Bool, 7)) != "true" || value.Show(in(-12, 1)) != "-12" || value.Show(str("a\n")) != "a\n" {
		t.Error("show")
	}
}

// P3.3
func TestWith(t *testing.T) {
	if v := value.With(in(3, 1), 2, 8); v != in(3, 11) {
		t.Error(v)
	}
	if v := value.With(in(3, 1)); v != in(3, 1) {
		t.Error(v)
	}
}

// P3.4
func TestDo(t *testing.T) {
	for _, x := range []struct {
		op   int
		a, b api.Value
		want api.Value
		why  string
	}{
		{api.OpAdd, in(2, 1), in(3, 2), in(5, 3), ""},
		{api.OpSub, in(2, 1), in(3, 0), in(-1, 1), ""},
		{api.OpMul, in(2, 0), in(3, 0), in(6, 0), ""},
		{api.OpDiv, in(-7, 0), in(2, 4), in(-4, 4), ""},
		{api.OpMod, in(-7, 0), in(2, 4), in(1, 4), ""},
		{api.OpDiv, in(1, 1), in(0, 2), api.Value{Label: 3}, "divide"},
		{api.OpMod, in(1, 1), in(0, 2), api.Value{Label: 3}, "divide"},
		{api.OpDiv, str("a"), in(0, 2), api.Value{Label: 2}, "arith"},
		{api.OpAdd, in(1, 1), api.Value{Label: 8}, api.Value{Label: 9}, "arith"},
		{api.OpAdd, str("1"), str("2"), api.Value{}, "arith"},
		{api.OpCat, str("a"), api.Value{Kind: api.Str, S: "b", Label: 2}, api.Value{Kind: api.Str, S: "ab", Label: 2}, ""},
		{api.OpCat, str("a"), in(1, 2), api.Value{Label: 2}, "concat"},
		{api.OpCat, in(1, 2), str("a"), api.Value{Label: 2}, "concat"},
		{api.OpLt, str("a"), str("ab"), truth(1, 0), ""},
		{api.OpLt, str("ab"), str("a"), truth(0, 0), ""},
		{api.OpLt, str("a"), str("a"), truth(0, 0), ""},
		{api.OpLe, str("a"), str("a"), truth(1, 0), ""},
		{api.OpLt, str("\x7f"), str("\x80"), truth(1, 0), ""},
		{api.OpLt, str(""), str("\x00"), truth(1, 0), ""},
		{api.OpLt, in(1, 1), in(2, 2), truth(1, 3), ""},
		{api.OpLe, in(2, 1), in(2, 2), truth(1, 3), ""},
		{api.OpLe, in(3, 1), in(2, 2), truth(0, 3), ""},
		{api.OpLt, in(-1, 0), in(0, 0), truth(1, 0), ""},
		{api.OpLt, in(1, 1), str("a"), api.Value{Label: 1}, "compare"},
		{api.OpLe, truth(0, 1), truth(1, 2), api.Value{Label: 3}, "compare"},
		{api.OpEq, in(1, 1), in(1, 2), truth(1, 3), ""},
		{api.OpEq, in(1, 1), str("1"), truth(0, 1), ""},
		{api.OpEq, of(api.Table, 3), of(api.Table, 3), truth(1, 0), ""},
		{0, in(1, 1), in(1, 2), api.Value{Label: 3}, "arith"},
		{10, in(1, 1), in(1, 2), api.Value{Label: 3}, "arith"},
		{-5, str("a"), str("b"), api.Value{}, "arith"},
	} {
		if v, why := value.Do(x.op, x.a, x.b); v != x.want || why != x.why {
			t.Error(x, v, why)
		}
	}
}

// P3.5
func TestNegNot(t *testing.T) {
	if v, why := value.Neg(in(5, 3)); v != in(-5, 3) || why != "" {
		t.Error(v, why)
	}
	if v, why := value.Neg(in(math.MinInt64, 0)); v != in(math.MinInt64, 0) || why != "" {
		t.Error(v, why)
	}
	if v, why := value.Neg(api.Value{Kind: api.Str, S: "a", Label: 3}); v != (api.Value{Label: 3}) || why != "arith" {
		t.Error(v, why)
	}
	if v := value.Not(api.Value{Label: 4}); v != truth(1, 4) {
		t.Error(v)
	}
	if v := value.Not(in(0, 2)); v != truth(0, 2) {
		t.Error(v)
	}
}

// P3.6
func TestCheck(t *testing.T) {
	for _, v := range []api.Value{{}, {Label: 7}, of(1, 0), of(1, 1), of(2, -9), str(""), str("a"), of(4, 0), of(5, 9), of(6, math.MaxInt64)} {
		if !value.Check(v) {
			t.Error(v)
		}
	}
	for _, v := range []api.Value{of(0, 1), of(1, 2), of(1, -1), {Kind: 3, N: 1}, of(4, -1), of(5, -1), of(6, math.MinInt64), of(-1, 0), of(7, 0), {S: "a"}, {Kind: 2, S: "a"}, {Kind: 1, S: "a"}, {Kind: 5, S: "x"}} {
		if value.Check(v) {
			t.Error(v)
		}
	}
}
