package types_test

import (
	"math/rand"
	"slices"
	"strconv"
	"strings"
	"testing"

	"ravelin/api"
	"ravelin/parse"
	"ravelin/types"
)

func of(kind int, args ...api.Type) api.Type { return api.Type{Kind: kind, Args: args} }

func shape(names string, args ...api.Type) api.Type {
	return api.Type{Kind: api.TShape, Names: strings.Fields(names), Args: args}
}

var (
	anyT, nilT, boolT, intT, strT, tableT, threadT = of(0), of(1), of(2), of(3), of(4), of(5), of(6)
)

// read tells the type that a text writes.
func read(t *testing.T, s string) (api.Type, api.Errno) {
	t.Helper()
	l, at, e := parse.Program("local x: " + s)
	if e != api.OK {
		t.Fatal(s, at, e)
	}
	for n, node := range l {
		if node.Kind == api.NLocal {
			x, _, e := types.Of(l, l[n].Kids[0])
			return x, e
		}
	}
	t.Fatal(s)
	return api.Type{}, api.OK
}

// P9.1, P9.3
func TestRead(t *testing.T) {
	for s, want := range map[string]string{
		"int": "int", "any": "any", "nil": "nil", "thread": "thread", "int | nil": "nil | int", "int | int": "int", "int | any | nil": "any",
		"thread | table | string | int | bool | nil": "nil | bool | int | string | table | thread",
		"{b: int, a: nil | string}":                  "{a: nil | string, b: int}", "{}": "{}", "{ab: int, a: any, B: table}": "{B: table, a: any, ab: int}",
		"(int, {a: int}) -> () -> nil | int": "(int, {a: int}) -> () -> nil | int", "((any) -> nil) -> any": "((any) -> nil) -> any", "() -> int @ 5": "() -> int",
	} {
		x, e := read(t, s)
		if e != api.OK || types.Show(x) != want || !types.Check(x) {
			t.Error(s, types.Show(x), e)
		}
	}
}

func nd(kind int, text string, kids ...int) api.Node {
	return api.Node{Kind: kind, Text: text, Kids: kids}
}

// P9.1: nodes that tell no type; the last one is asked.
func TestWrong(t *testing.T) {
	in := nd(api.NTName, "int")
	for n, x := range []struct {
		l  []api.Node
		at int
	}{
		{[]api.Node{nd(api.NTName, "float")}, 0}, {[]api.Node{nd(api.NTName, "")}, 0}, {[]api.Node{in, nd(api.NTName, "int", 0)}, 1}, {[]api.Node{nd(api.NInt, "1")}, 0}, {[]api.Node{nd(0, "")}, 0},
		{[]api.Node{in, nd(api.NTField, "a", 0)}, 1}, {[]api.Node{nd(api.NTUnion, "")}, 0}, {[]api.Node{nd(api.NTFunc, "")}, 0}, {[]api.Node{nd(api.NTBound, "1")}, 0}, {[]api.Node{in, in, nd(api.NTBound, "1", 0, 1)}, 2},
		{[]api.Node{in, nd(api.NTFunc, "", 1)}, 1}, {[]api.Node{in, nd(api.NTFunc, "", 0, -1)}, 1}, {[]api.Node{nd(api.NTName, "x"), nd(api.NTFunc, "", 0, 5)}, 1}, {[]api.Node{in, nd(api.NNone, "", 1)}, 1}, {[]api.Node{nd(api.NNil, ""), nd(api.NTFunc, "", 0)}, 0},
		{[]api.Node{nd(api.NTShape, ""), in, nd(api.NTUnion, "", 1, 0)}, 0}, {[]api.Node{in, nd(api.NTBound, "1", 0), nd(api.NTUnion, "", 1)}, 1}, {[]api.Node{nd(api.NNone, ""), nd(api.NTUnion, "", 0)}, 0}, {[]api.Node{in, nd(api.NTUnion, "", 0), nd(api.NTName, "?"), nd(api.NTUnion, "", 1, 2)}, 2},
		{[]api.Node{in, nd(api.NTShape, "", 0)}, 0}, {[]api.Node{in, nd(api.NTField, "and", 0), nd(api.NTShape, "", 1)}, 1}, {[]api.Node{in, nd(api.NTField, "a"), nd(api.NTShape, "", 1)}, 1}, {[]api.Node{in, in, nd(api.NTField, "a", 0, 1), nd(api.NTShape, "", 2)}, 2},
		{[]api.Node{in, nd(api.NTField, "a", 1), nd(api.NTShape, "", 1)}, 1}, {[]api.Node{nd(api.NTShape, ""), nd(api.NTField, "a", 0), nd(api.NTShape, "", 1)}, 1}, {[]api.Node{in, nd(api.NTFunc, "", 0), nd(api.NTField, "a", 1), nd(api.NTShape, "", 2)}, 2},
		{[]api.Node{in, nd(api.NTField, "a", 0), nd(api.NTShape, "", 1, 1)}, 1}, {[]api.Node{in, nd(api.NTField, "a", 0), nd(api.NTName, "x"), nd(api.NTField, "a", 2), nd(api.NTShape, "", 1, 3)}, 2}, {[]api.Node{nd(api.NTName, "x"), nd(api.NTField, "1", 0), nd(api.NTShape, "", 1)}, 1},
	} {
		if got, at, e := types.Of(x.l, len(x.l)-1); e != api.ErrType || at != x.at || !types.Same(got, anyT) {
			t.Error(n, at, e)
		}
	}
	for _, n := range []int{-1, 1, 1 << 60, -1 << 63} {
		if _, at, e := types.Of([]api.Node{in}, n); at != n || e != api.ErrType {
			t.Error(n, at, e)
		}
	}
	if _, at, e := types.Of(nil, 0); at != 0 || e != api.ErrType {
		t.Error(at, e)
	}
}

// P9.1: what may be though tree.Check doesn't take it.
func TestLoose(t *testing.T) {
	in := nd(api.NTName, "int")
	for n, x := range []struct {
		l    []api.Node
		want string
	}{
		{[]api.Node{nd(api.NNone, "x")}, "any"}, {[]api.Node{in, nd(api.NNone, "", 0, 0)}, "any"}, {[]api.Node{in, nd(api.NTUnion, "x", 0)}, "int"}, {[]api.Node{in, nd(api.NTUnion, "", 0), nd(api.NTUnion, "", 1, 0)}, "int"},
		{[]api.Node{nd(api.NNone, ""), nd(api.NTFunc, "x", 0, 0)}, "(any) -> any"}, {[]api.Node{nd(api.NNone, ""), nd(api.NTField, "a", 0), nd(api.NTShape, "z", 1)}, "{a: any}"}, {[]api.Node{in, nd(api.NTBound, "", 0), nd(api.NTBound, "", 1), nd(api.NTFunc, "", 2)}, "() -> int"},
	} {
		if got, at, e := types.Of(x.l, len(x.l)-1); e != api.OK || at != 0 || types.Show(got) != x.want {
			t.Error(n, at, e, types.Show(got))
		}
	}
}

// P9.1: too long.
func TestLong(t *testing.T) {
	wide := func(n int) []api.Node {
		l := []api.Node{nd(api.NTName, "int")}
		return append(l, nd(api.NTFunc, "", make([]int, n)...))
	}
	if _, at, e := types.Of(wide(9999), 1); at != 0 || e != api.OK {
		t.Error(at, e)
	}
	if _, at, e := types.Of(wide(10000), 1); at != 1 || e != api.ErrLong {
		t.Error(at, e)
	}
	deep := []api.Node{nd(api.NTName, "int")}
	for n := range 50 {
		deep = append(deep, nd(api.NTFunc, "", n))
	}
	if _, at, e := types.Of(deep, 49); at != 0 || e != api.OK {
		t.Error(at, e)
	}
	if x, at, e := types.Of(deep, 50); at != 50 || e != api.ErrLong || !types.Same(x, anyT) {
		t.Error(at, e)
	}
	double := []api.Node{nd(api.NTName, "int")}
	for n := range 40 {
		double = append(double, nd(api.NTFunc, "", n, n))
	}
	if _, at, e := types.Of(double, 40); at != 40 || e != api.ErrLong {
		t.Error(at, e)
	}
	double[0].Text = "x"
	if _, at, e := types.Of(double, 40); at != 0 || e != api.ErrType {
		t.Error(at, e)
	}
	var fields []api.Node
	var kids []int
	for n := range 5001 {
		fields = append(fields, nd(api.NTName, "int"), nd(api.NTField, "a"+strconv.Itoa(n), 2*n))
		kids = append(kids, 2*n+1)
	}
	fields = append(fields, nd(api.NTShape, "", kids...))
	if _, at, e := types.Of(fields, len(fields)-1); at != 0 || e != api.OK {
		t.Error(at, e)
	}
}

// good are types that may be.
func good() []api.Type {
	return []api.Type{
		anyT, nilT, boolT, intT, strT, tableT, threadT, of(7, nilT, intT), of(7, nilT, boolT, intT, strT, tableT, threadT), shape(""), shape("a", anyT), shape("B a b", of(7, nilT, strT), tableT, intT),
		of(9, intT), of(9, of(9, anyT), shape("a", intT), nilT),
	}
}

// wrong are types that may not be.
func wrong() []api.Type {
	loop := make([]api.Type, 2)
	loop[0], loop[1] = of(9, loop...), of(9, loop...)
	loop[0].Args = loop
	return []api.Type{
		of(-1), of(10), of(3, intT), {Kind: 3, Names: []string{"a"}}, of(0, intT), of(7), of(7, intT), of(7, intT, nilT), of(7, intT, intT), of(7, anyT, intT), of(7, intT, of(7, intT, strT)), of(7, intT, shape("")), of(7, nilT, of(3, intT)),
		{Kind: 7, Names: []string{"a"}, Args: []api.Type{nilT, intT}}, of(8, intT), shape("a"), shape("b a", intT, intT), shape("a a", intT, intT), shape("and", intT), {Kind: 8, Names: []string{""}, Args: []api.Type{intT}},
		shape("a", shape("")), shape("a", of(9, intT)), shape("a", of(3, intT)), of(9), {Kind: 9, Names: []string{"a"}, Args: []api.Type{intT}}, of(9, of(-1)), of(9, loop[0]), nest(51), of(9, make([]api.Type, 10000)...),
	}
}

// nest is a type with so many within one another.
func nest(n int) api.Type {
	t := intT
	for range n - 1 {
		t = of(9, t)
	}
	return t
}

// P9.2
func TestCheck(t *testing.T) {
	for _, x := range good() {
		if !types.Check(x) {
			t.Error(x)
		}
	}
	for n, x := range wrong() {
		if types.Check(x) {
			t.Error(n)
		}
	}
	if !types.Check(nest(50)) || !types.Check(of(9, make([]api.Type, 9999)...)) {
		t.Error("bounds")
	}
	in := nest(49)
	in.Args[0] = of(9, of(7, nilT, intT))
	t49 := of(7, nilT, intT)
	for range 48 {
		t49 = of(9, t49)
	}
	if !types.Check(t49) || types.Check(of(9, t49)) {
		t.Error("a union's members are within it")
	}
}

// P9.3
func TestShowSame(t *testing.T) {
	for n, x := range wrong() {
		if types.Show(x) != "?" || types.Same(x, x) || types.Same(x, anyT) || types.Same(anyT, x) {
			t.Error(n)
		}
	}
	for n, x := range good() {
		for m, y := range good() {
			if types.Same(x, y) != (n == m) {
				t.Error(n, m)
			}
		}
	}
	if types.Show(shape("a b", of(7, nilT, intT), anyT)) != "{a: nil | int, b: any}" || types.Show(of(9, of(9, intT), nilT)) != "(() -> int) -> nil" {
		t.Error("show")
	}
	if !types.Same(api.Type{Kind: 8, Names: []string{}, Args: []api.Type{}}, shape("")) {
		t.Error("nil and empty")
	}
}

// P9.4, P9.5
func TestKindsVague(t *testing.T) {
	for n, want := range []int{127, 1, 2, 4, 8, 16, 64, 5, 95, 16, 16, 16, 32, 32} {
		if types.Kinds(good()[n]) != want {
			t.Error(n, types.Kinds(good()[n]))
		}
	}
	for n, want := range []bool{true, false, false, false, false, true, false, false, true, false, true, true, false, true} {
		if types.Vague(good()[n]) != want {
			t.Error(n)
		}
	}
	for n, x := range wrong() {
		if types.Kinds(x) != 0 || !types.Vague(x) {
			t.Error(n)
		}
	}
	if types.Vague(shape("a", of(7, nilT, strT))) || !types.Vague(shape("a", of(7, nilT, tableT))) || !types.Vague(of(9, of(9, anyT, intT), intT)) {
		t.Error("vague")
	}
}

// P9.6, P9.8
func TestUnion(t *testing.T) {
	for bits, want := range map[int]string{0: "any", 1: "nil", 4: "int", 32: "any", 36: "int", 5: "nil | int", 95: "any", 127: "any", -1: "any", 64 | 16: "table | thread", 1 << 7: "any", 94: "bool | int | string | table | thread"} {
		if got := types.Show(types.Union(bits)); got != want {
			t.Error(bits, got)
		}
	}
	for _, x := range good() {
		if k := types.Kinds(x); x.Kind <= api.TUnion && k != 95 && !types.Same(types.Union(k), x) {
			t.Error(types.Show(x))
		}
	}
}

// P9.7
func TestStamps(t *testing.T) {
	want := []api.Stamp{{Name: "B", Kinds: 9}, {Name: "a", Kinds: 16}, {Name: "b", Kinds: 4}}
	if got := types.Stamps(good()[11]); !slices.Equal(got, want) {
		t.Error(got)
	}
	if got := types.Stamps(shape("a", anyT)); !slices.Equal(got, []api.Stamp{{Name: "a", Kinds: 127}}) {
		t.Error(got)
	}
	for _, x := range append(wrong(), anyT, tableT, of(9, shape("a", intT)), shape("")) {
		if len(types.Stamps(x)) != 0 {
			t.Error(x)
		}
	}
}

// P1: any nodes end without a panic.
func TestAnyNodes(t *testing.T) {
	r := rand.New(rand.NewSource(10))
	for range 5000 {
		l := make([]api.Node, r.Intn(8))
		for n := range l {
			l[n] = nd(r.Intn(8)+30, []string{"", "a", "int", "nil"}[r.Intn(4)])
			for range r.Intn(4) {
				l[n].Kids = append(l[n].Kids, r.Intn(n+2)-r.Intn(2))
			}
		}
		n := r.Intn(10) - 1
		if x, _, e := types.Of(l, n); e == api.OK && !types.Check(x) {
			t.Error(l)
		}
	}
}
