package tree_test

import (
	"math"
	"math/rand"
	"slices"
	"strings"
	"testing"

	"ravelin/api"
	"ravelin/tree"
)

// nd makes a node.
func nd(kind int, text string, kids ...int) api.Node {
	return api.Node{Kind: kind, Text: text, Kids: kids}
}

// list is a list of nodes that grows.
type list []api.Node

// add lays a node and tells its number.
func (l *list) add(kind int, text string, kids ...int) int {
	*l = append(*l, nd(kind, text, kids...))
	return len(*l) - 1
}

// expr lays statement `local x = E`, a block and a program about the last node.
func expr(l list) list {
	e := len(l) - 1
	n := l.add(api.NNone, "")
	s := l.add(api.NLocal, "x", n, e)
	l.add(api.NProgram, "", l.add(api.NBlock, "", s))
	return l
}

// typed lays `local x: T`, a block and a program about the last node.
func typed(l list) list {
	t := len(l) - 1
	n := l.add(api.NNone, "")
	s := l.add(api.NLocal, "x", t, n)
	l.add(api.NProgram, "", l.add(api.NBlock, "", s))
	return l
}

// stat lays a block and a program about the last node.
func stat(l list) list {
	l.add(api.NProgram, "", l.add(api.NBlock, "", len(l)-1))
	return l
}

func check(t *testing.T, name string, l []api.Node, at int, e api.Errno) {
	t.Helper()
	if n, err := tree.Check(l); n != at || err != e {
		t.Errorf("%s: %d %d, not %d %d", name, n, err, at, e)
	}
}

func TestWhole(t *testing.T) {
	check(t, "none", nil, 0, api.ErrTree)
	check(t, "least", list{nd(api.NBlock, ""), nd(api.NProgram, "", 0)}, 0, api.OK)
	check(t, "no program", list{nd(api.NBlock, "")}, 0, api.ErrTree)
	check(t, "no program last", list{nd(api.NBlock, ""), nd(api.NProgram, "", 0), nd(api.NNil, "")}, 2, api.ErrTree)
	check(t, "orphan", list{nd(api.NNil, ""), nd(api.NBlock, ""), nd(api.NProgram, "", 1)}, 2, api.ErrTree)
	check(t, "two programs", list{nd(api.NBlock, ""), nd(api.NProgram, "", 0), nd(api.NBlock, ""), nd(api.NProgram, "", 2)}, 3, api.ErrTree)
	check(t, "kid above", list{nd(api.NProgram, "", 1), nd(api.NBlock, "")}, 0, api.ErrTree)
	check(t, "kid itself", list{nd(api.NBlock, "", 0)}, 0, api.ErrTree)
	check(t, "kid below 0", list{nd(api.NBlock, "", -1)}, 0, api.ErrTree)
	check(t, "at", list{{Kind: api.NBlock, At: -1}}, 0, api.ErrTree)
	check(t, "at may be any", list{{Kind: api.NBlock, At: math.MaxInt}, nd(api.NProgram, "", 0)}, 0, api.OK)
	check(t, "kid twice", list{nd(api.NNil, ""), nd(api.NBin, "+", 0, 0)}, 1, api.ErrTree)
	check(t, "kid of two", list{nd(api.NNil, ""), nd(api.NUn, "-", 0), nd(api.NUn, "-", 0)}, 2, api.ErrTree)
	for _, k := range []int{0, -1, 37, math.MaxInt, math.MinInt} {
		check(t, "kind", list{nd(k, "")}, 0, api.ErrTree)
	}
}

// exprs are lists whose last node is an expression that may be.
func exprs() []list {
	return []list{
		{nd(api.NNil, "")}, {nd(api.NBool, "true")}, {nd(api.NBool, "false")}, {nd(api.NInt, "0")}, {nd(api.NInt, "9223372036854775807")},
		{nd(api.NStr, "")}, {nd(api.NStr, "\x00\xff")}, {nd(api.NName, "any")}, {nd(api.NName, "a"), nd(api.NField, "read", 0)},
		{nd(api.NNil, ""), nd(api.NInt, "1"), nd(api.NIndex, "", 0, 1)}, {nd(api.NNil, ""), nd(api.NCall, "", 0)},
		{nd(api.NNil, ""), nd(api.NInt, "1"), nd(api.NInt, "2"), nd(api.NCall, "", 0, 1, 2)},
		{nd(api.NInt, "7"), nd(api.NBuiltin, "read", 0)}, {nd(api.NInt, "0"), nd(api.NNil, ""), nd(api.NBuiltin, "write", 0, 1)},
		{nd(api.NNil, ""), nd(api.NBuiltin, "pcall", 0)}, {nd(api.NNil, ""), nd(api.NNil, ""), nd(api.NBuiltin, "key", 0, 1)},
		{nd(api.NNone, ""), nd(api.NBlock, ""), nd(api.NFunc, "", 0, 1)},
		{nd(api.NNone, ""), nd(api.NParam, "a", 0), nd(api.NTName, "int"), nd(api.NTBound, "-1", 2), nd(api.NParam, "a", 3), nd(api.NTName, "nil"), nd(api.NBlock, ""), nd(api.NFunc, "", 1, 4, 5, 6)},
		{nd(api.NTable, "")}, {nd(api.NNil, ""), nd(api.NNamed, "read", 0), nd(api.NNil, ""), nd(api.NItem, "", 2), nd(api.NTable, "", 1, 3)},
		{nd(api.NNil, ""), nd(api.NNil, ""), nd(api.NAnd, "", 0, 1)}, {nd(api.NNil, ""), nd(api.NNil, ""), nd(api.NOr, "", 0, 1)},
		{nd(api.NNil, ""), nd(api.NUn, "not", 0)}, {nd(api.NNil, ""), nd(api.NUn, "#", 0)},
	}
}

// P6.1: every kind of expression with kids and texts that may be.
func TestExpressions(t *testing.T) {
	for _, l := range exprs() {
		check(t, l[len(l)-1].Text, expr(l), 0, api.OK)
	}
	for _, op := range strings.Fields("+ - * // % .. == ~= < <= > >=") {
		check(t, op, expr(list{nd(api.NNil, ""), nd(api.NNil, ""), nd(api.NBin, op, 0, 1)}), 0, api.OK)
	}
}

// P6.1: what isn't as said, each at its last node.
func TestWrongExpressions(t *testing.T) {
	for _, l := range []list{
		{nd(api.NNil, "x")}, {nd(api.NBool, "")}, {nd(api.NBool, "True")}, {nd(api.NInt, "")}, {nd(api.NInt, "-1")}, {nd(api.NInt, "01")}, {nd(api.NInt, "0x1")}, {nd(api.NInt, "9223372036854775808")},
		{nd(api.NName, "read")}, {nd(api.NName, "and")}, {nd(api.NName, "")}, {nd(api.NName, "1a")}, {nd(api.NName, "a b")},
		{nd(api.NNil, ""), nd(api.NNil, "", 0)}, {nd(api.NName, "a"), nd(api.NField, "nil", 0)}, {nd(api.NField, "a")}, {nd(api.NNone, ""), nd(api.NField, "a", 0)},
		{nd(api.NNil, ""), nd(api.NIndex, "", 0)}, {nd(api.NNil, ""), nd(api.NNil, ""), nd(api.NIndex, "x", 0, 1)}, {nd(api.NCall, "")}, {nd(api.NNil, ""), nd(api.NCall, "f", 0)},
		{nd(api.NInt, "8"), nd(api.NBuiltin, "read", 0)}, {nd(api.NName, "x"), nd(api.NBuiltin, "read", 0)}, {nd(api.NStr, "1"), nd(api.NBuiltin, "read", 0)}, {nd(api.NBuiltin, "read")},
		{nd(api.NInt, "10"), nd(api.NNil, ""), nd(api.NBuiltin, "write", 0, 1)}, {nd(api.NInt, "1"), nd(api.NBuiltin, "write", 0)}, {nd(api.NNil, ""), nd(api.NBuiltin, "print", 0)}, {nd(api.NNil, ""), nd(api.NNil, ""), nd(api.NBuiltin, "type", 0, 1)},
		{nd(api.NBlock, ""), nd(api.NFunc, "", 0)}, {nd(api.NNone, ""), nd(api.NFunc, "", 0)}, {nd(api.NNone, ""), nd(api.NBlock, ""), nd(api.NFunc, "f", 0, 1)}, {nd(api.NTName, "int"), nd(api.NTBound, "1", 0), nd(api.NBlock, ""), nd(api.NFunc, "", 1, 2)},
		{nd(api.NNone, ""), nd(api.NNone, ""), nd(api.NBlock, ""), nd(api.NFunc, "", 0, 1, 2)}, {nd(api.NNone, ""), nd(api.NNone, ""), nd(api.NFunc, "", 0, 1)},
		{nd(api.NNone, ""), nd(api.NParam, "type", 0)}, {nd(api.NNil, ""), nd(api.NParam, "a", 0)}, {nd(api.NParam, "a")},
		{nd(api.NNil, ""), nd(api.NTable, "", 0)}, {nd(api.NNil, ""), nd(api.NNamed, "", 0)}, {nd(api.NNil, ""), nd(api.NItem, "a", 0)}, {nd(api.NNone, ""), nd(api.NItem, "", 0)},
		{nd(api.NNil, ""), nd(api.NBin, "+", 0)}, {nd(api.NNil, ""), nd(api.NNil, ""), nd(api.NBin, "/", 0, 1)}, {nd(api.NNil, ""), nd(api.NNil, ""), nd(api.NBin, "", 0, 1)}, {nd(api.NNil, ""), nd(api.NNil, ""), nd(api.NBin, "+ -", 0, 1)},
		{nd(api.NNil, ""), nd(api.NUn, "+", 0)}, {nd(api.NUn, "-")}, {nd(api.NNil, ""), nd(api.NAnd, "", 0)}, {nd(api.NNil, ""), nd(api.NNil, ""), nd(api.NAnd, "and", 0, 1)}, {nd(api.NNil, ""), nd(api.NNil, ""), nd(api.NNil, ""), nd(api.NOr, "", 0, 1, 2)},
		{nd(api.NTName, "float")}, {nd(api.NTName, "")}, {nd(api.NTName, "function")}, {nd(api.NNil, ""), nd(api.NTShape, "", 0)}, {nd(api.NTName, "int"), nd(api.NTField, "and", 0)}, {nd(api.NNil, ""), nd(api.NTField, "a", 0)},
		{nd(api.NTFunc, "")}, {nd(api.NNone, ""), nd(api.NTFunc, "", 0)}, {nd(api.NTName, "int"), nd(api.NTUnion, "", 0)}, {nd(api.NTName, "int"), nd(api.NTFunc, "", 0), nd(api.NTName, "nil"), nd(api.NTUnion, "", 1, 2)},
		{nd(api.NTName, "int"), nd(api.NTBound, "", 0)}, {nd(api.NTName, "int"), nd(api.NTBound, "01", 0)}, {nd(api.NTName, "int"), nd(api.NTBound, "-0", 0)}, {nd(api.NTName, "int"), nd(api.NTBound, "9223372036854775808", 0)}, {nd(api.NTName, "int"), nd(api.NTBound, "+1", 0)},
		{nd(api.NTName, "int"), nd(api.NTBound, "1", 0), nd(api.NTBound, "1", 1)}, {nd(api.NTName, "int"), nd(api.NTBound, "1", 0), nd(api.NTFunc, "", 1)},
		{nd(api.NTName, "int"), nd(api.NTField, "a", 0), nd(api.NTName, "nil"), nd(api.NTField, "a", 2), nd(api.NTShape, "", 1, 3)},
	} {
		check(t, l[len(l)-1].Text, l, len(l)-1, api.ErrTree)
	}
}

// P6.1: types.
func TestTypes(t *testing.T) {
	for _, name := range strings.Fields("any nil bool int string table thread") {
		check(t, name, typed(list{nd(api.NTName, name)}), 0, api.OK)
	}
	for _, l := range []list{
		{nd(api.NTShape, "")}, {nd(api.NTName, "int"), nd(api.NTFunc, "", 0)}, {nd(api.NTName, "int"), nd(api.NTShape, ""), nd(api.NTUnion, "", 0, 1)},
		{nd(api.NTName, "int"), nd(api.NTFunc, "", 0), nd(api.NTField, "a", 1), nd(api.NTShape, "", 2)}, {nd(api.NTName, "int"), nd(api.NTBound, "-9223372036854775808", 0)}, {nd(api.NTName, "int"), nd(api.NTName, "int"), nd(api.NTFunc, "", 0, 1)},
		{nd(api.NTName, "int"), nd(api.NTBound, "0", 0)}, {nd(api.NTName, "int"), nd(api.NTName, "nil"), nd(api.NTName, "int"), nd(api.NTUnion, "", 0, 1, 2)},
	} {
		check(t, l[len(l)-1].Text, typed(l), 0, api.OK)
	}
}

// P6.1: statements.
func TestStatements(t *testing.T) {
	name, none, null, block := nd(api.NName, "a"), nd(api.NNone, ""), nd(api.NNil, ""), nd(api.NBlock, "")
	for _, l := range []list{
		{none, none, nd(api.NLocal, "a", 0, 1)}, {none, block, nd(api.NFunc, "", 0, 1), nd(api.NFunction, "f", 2)}, {name, null, nd(api.NAssign, "", 0, 1)},
		{name, nd(api.NField, "b", 0), null, nd(api.NAssign, "", 1, 2)}, {name, nd(api.NCall, "", 0), null, nd(api.NIndex, "", 1, 2), null, nd(api.NAssign, "", 3, 4)},
		{nd(api.NInt, "1"), nd(api.NBuiltin, "read", 0), nd(api.NDo, "", 1)}, {nd(api.NInt, "1"), nd(api.NBuiltin, "read", 0), nd(api.NField, "a", 1), null, nd(api.NAssign, "", 2, 3)}, {name, nd(api.NCall, "", 0), nd(api.NCall, "", 1), nd(api.NDo, "", 2)},
		{null, block, none, nd(api.NIf, "", 0, 1, 2)}, {null, block, block, nd(api.NIf, "", 0, 1, 2)}, {null, block, nd(api.NWhile, "", 0, 1)}, {none, nd(api.NReturn, "", 0)}, {null, nd(api.NReturn, "", 0)}, {nd(api.NBreak, "")},
	} {
		check(t, "statement", stat(l), 0, api.OK)
	}
	for _, l := range []list{
		{none, nd(api.NLocal, "a", 0)}, {none, none, nd(api.NLocal, "type", 0, 1)}, {none, none, nd(api.NLocal, "", 0, 1)}, {null, none, nd(api.NLocal, "a", 0, 1)}, {null, nd(api.NFunction, "f", 0)}, {none, block, nd(api.NFunc, "", 0, 1), nd(api.NFunction, "error", 2)},
		{null, null, nd(api.NAssign, "", 0, 1)}, {name, nd(api.NCall, "", 0), null, nd(api.NAssign, "", 1, 2)}, {null, nd(api.NField, "b", 0), null, nd(api.NAssign, "", 1, 2)}, {name, none, nd(api.NAssign, "", 0, 1)},
		{name, nd(api.NDo, "", 0)}, {null, nd(api.NCall, "", 0), nd(api.NDo, "", 1)}, {nd(api.NTable, ""), nd(api.NField, "a", 0), nd(api.NCall, "", 1), nd(api.NDo, "", 2)}, {null, nd(api.NDo, "x", 0)},
		{null, none, none, nd(api.NIf, "", 0, 1, 2)}, {null, block, nd(api.NIf, "", 0, 1)}, {null, none, nd(api.NWhile, "", 0, 1)}, {null, block, block, nd(api.NWhile, "", 0, 1, 2)}, {nd(api.NReturn, "")}, {null, nd(api.NReturn, "x", 0)}, {null, nd(api.NBreak, "", 0)},
		{null, nd(api.NBlock, "", 0)}, {none, nd(api.NBlock, "", 0)}, {block, nd(api.NBlock, "", 0)}, {nd(api.NBreak, ""), nd(api.NBreak, ""), nd(api.NBlock, "", 0, 1)}, {none, nd(api.NReturn, "", 0), name, nd(api.NCall, "", 2), nd(api.NDo, "", 3), nd(api.NBlock, "", 1, 4)},
	} {
		check(t, "wrong statement", l, len(l)-1, api.ErrTree)
	}
}

// P6.1: channels.
func TestChannels(t *testing.T) {
	for _, text := range []string{"0 0", "7 -1", "3 -9223372036854775808", "3 9223372036854775807"} {
		check(t, text, list{nd(api.NChannel, text), nd(api.NBlock, ""), nd(api.NProgram, "", 0, 1)}, 0, api.OK)
	}
	for _, text := range []string{"", "0", "0 ", "8 0", "00 0", "0  0", "0 01", "-1 0", "1 +1", "1 9223372036854775808", "1 1 ", " 1 1", "1\t1"} {
		check(t, text, list{nd(api.NChannel, text), nd(api.NBlock, ""), nd(api.NProgram, "", 0, 1)}, 0, api.ErrTree)
	}
	check(t, "twice", list{nd(api.NChannel, "1 1"), nd(api.NChannel, "1 2"), nd(api.NBlock, ""), nd(api.NProgram, "", 0, 1, 2)}, 3, api.ErrTree)
	check(t, "behind", list{nd(api.NChannel, "1 1"), nd(api.NBlock, ""), nd(api.NProgram, "", 1, 0)}, 2, api.ErrTree)
	check(t, "two", list{nd(api.NChannel, "2 1"), nd(api.NChannel, "1 2"), nd(api.NBlock, ""), nd(api.NProgram, "", 0, 1, 2)}, 0, api.OK)
}

// tower lays so many prefix operators about a nil, in a program: the whole is n + 4 deep.
func tower(n int) list {
	l := list{nd(api.NNil, "")}
	for k := range n {
		l.add(api.NUn, "-", k)
	}
	return expr(l)
}

// P6.1, P6.2
func TestDeepLong(t *testing.T) {
	check(t, "deep", tower(api.MaxDeep-4), 0, api.OK)
	check(t, "too deep", tower(api.MaxDeep-3), 0, api.ErrDeep)
	check(t, "much too deep", tower(40000), 0, api.ErrDeep)
	long := make(list, api.MaxNodes+1)
	check(t, "too long", long, 0, api.ErrLong)
	check(t, "long", long[:api.MaxNodes], 0, api.ErrTree)
	for n, l := range [][]api.Node{nil, {nd(0, "")}, {nd(0, ""), nd(0, "", 0, 0)}, {nd(0, "", 0, 1, -1, 7), nd(0, "", 5), nd(0, "", 0, 1, math.MinInt)}, {nd(0, ""), nd(0, "", 0), nd(0, "")}} {
		if want := []int{0, 1, 2, 2, 1}[n]; tree.Deep(l) != want {
			t.Error(n, tree.Deep(l))
		}
	}
	if tree.Deep(tower(300)) != 304 {
		t.Error(tree.Deep(tower(300)))
	}
}

// P6.3
func TestSame(t *testing.T) {
	a := list{{Kind: api.NNil, At: 3}, nd(api.NUn, "-", 0)}
	if !tree.Same(a, list{nd(api.NNil, ""), nd(api.NUn, "-", 0)}) || !tree.Same(nil, list{}) || !tree.Same(list{nd(-5, "x", 77)}, list{nd(-5, "x", 77)}) {
		t.Error("alike")
	}
	for _, b := range []list{a[:1], {nd(api.NName, ""), a[1]}, {a[0], nd(api.NUn, "#", 0)}, {a[0], nd(api.NUn, "-", 1)}, {a[0], nd(api.NUn, "-", 0, 0)}, {a[0], nd(api.NUn, "-")}} {
		if tree.Same(a, b) {
			t.Error(b)
		}
	}
}

// P6.4
func TestWalk(t *testing.T) {
	l := expr(list{nd(api.NInt, "1"), nd(api.NInt, "2"), nd(api.NBin, "+", 0, 1)})
	walk := tree.Walk(l)
	l[6].Kids[0] = 0
	for range 2 {
		var nodes, deeps []int
		for n, deep := range walk {
			nodes, deeps = append(nodes, n), append(deeps, deep)
		}
		if !slices.Equal(nodes, []int{6, 5, 4, 3, 2, 0, 1}) || !slices.Equal(deeps, []int{0, 1, 2, 3, 3, 4, 4}) {
			t.Error(nodes, deeps)
		}
	}
	for n := range walk {
		if n == 4 {
			break
		}
	}
	for _, l := range [][]api.Node{nil, {nd(api.NNil, "")}, l, tower(500)} {
		for n := range tree.Walk(l) {
			t.Fatal(n)
		}
	}
}

// P6.5
func TestBuiltin(t *testing.T) {
	for name, want := range map[string]int{"read": 1, "write": 2, "pcall": 1, "error": 1, "type": 1, "key": 2, "create": 1, "resume": 2, "yield": 1, "status": 1, "": -1, "Read": -1, "print": -1, "x": -1} {
		if tree.Builtin(name) != want {
			t.Error(name)
		}
	}
}

// P1, P2: any nodes end without a panic and stay as they are.
func TestAnyNodes(t *testing.T) {
	r := rand.New(rand.NewSource(7))
	for range 3000 {
		l := make([]api.Node, r.Intn(8))
		for n := range l {
			l[n] = nd(r.Intn(40)-1, []string{"", "a", "0", "+", "1 1", "read"}[r.Intn(6)])
			for range r.Intn(4) {
				l[n].Kids = append(l[n].Kids, r.Intn(10)-1)
			}
		}
		before := slices.Clone(l)
		at, e := tree.Check(l)
		if at < 0 || at > len(l) || e == api.OK && tree.Deep(l) < 2 || !tree.Same(before, l) {
			t.Error(l)
		}
		for range tree.Walk(l) {
		}
	}
}
