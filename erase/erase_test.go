package erase_test

import (
	"testing"

	"ravelin/api"
	"ravelin/erase"
	"ravelin/parse"
	"ravelin/show"
	"ravelin/tree"
)

func parsed(t *testing.T, s string) []api.Node {
	t.Helper()
	l, at, e := parse.Program(s)
	if e != api.OK {
		t.Fatal(s, at, e)
	}
	return l
}

// text writes an erased tree, which must be a tree.
func text(t *testing.T, l []api.Node, e api.Errno) string {
	t.Helper()
	if e != api.OK {
		t.Fatal(e)
	}
	if n, e := tree.Check(l); e != api.OK {
		t.Fatal(n, e)
	}
	s, _ := show.Program(l)
	return s
}

var programs = []struct{ s, bare, free, both string }{
	{"", "", "", ""},
	{"local x: int = 1", "local x = 1\n", "local x: int = 1\n", "local x = 1\n"},
	{"local x = 1", "local x = 1\n", "local x = 1\n", "local x = 1\n"},
	{"channel 1 = 5 channel 0 = 0 local x: int @ 3 = 1", "channel 1 = 5\nchannel 0 = 0\nlocal x = 1\n", "local x: int = 1\n", "local x = 1\n"},
	{"function f(a: int | nil @ 1, b, c: {d: int}): (int) -> {} return a end", "function f(a, b, c)\n  return a\nend\n", "function f(a: int | nil, b, c: {d: int}): (int) -> {}\n  return a\nend\n", "function f(a, b, c)\n  return a\nend\n"},
	{"local f: any = function(x: {}): nil local y: table @ -1 end", "local f = function(x)\n  local y\nend\n", "local f: any = function(x: {}): nil\n  local y: table\nend\n", "local f = function(x)\n  local y\nend\n"},
}

// P14.1, P14.2
func TestTexts(t *testing.T) {
	for _, x := range programs {
		l := parsed(t, x.s)
		bare, e := erase.Tree(l)
		if got := text(t, bare, e); got != x.bare {
			t.Errorf("%q: %q", x.s, got)
		}
		free, e := erase.Labels(l)
		if got := text(t, free, e); got != x.free {
			t.Errorf("%q: %q", x.s, got)
		}
		for _, k := range bare {
			if k.Kind >= api.NTName {
				t.Error(x.s, k)
			}
		}
	}
}

// P14.1: the nodes that stay stand in order, the NNone in the type's place.
func TestOrder(t *testing.T) {
	l := parsed(t, "local x: int | nil @ 3 = 1 + 2")
	got, _ := erase.Tree(l)
	want := []api.Node{{Kind: api.NNone}, {Kind: api.NInt, Text: "1", At: 25}, {Kind: api.NInt, Text: "2", At: 29}, {Kind: api.NBin, Text: "+", Kids: []int{1, 2}, At: 27}, {Kind: api.NLocal, Text: "x", Kids: []int{0, 3}}, {Kind: api.NBlock, Kids: []int{4}}, {Kind: api.NProgram, Kids: []int{5}}}
	if show.Lisp(got) != show.Lisp(want) || !tree.Same(got, want) {
		t.Error(show.Lisp(got))
	}
	late := []api.Node{{Kind: api.NTName, Text: "int", At: 5}, {Kind: api.NNil}, {Kind: api.NTBound, Text: "1", Kids: []int{0}, At: 7}, {Kind: api.NLocal, Text: "x", Kids: []int{2, 1}}, {Kind: api.NBlock, Kids: []int{3}}, {Kind: api.NProgram, Kids: []int{4}}}
	got, _ = erase.Tree(late)
	want = []api.Node{{Kind: api.NNone}, {Kind: api.NNil}, {Kind: api.NLocal, Text: "x", Kids: []int{0, 1}}, {Kind: api.NBlock, Kids: []int{2}}, {Kind: api.NProgram, Kids: []int{3}}}
	if !tree.Same(got, want) || got[0].At != 0 {
		t.Error(show.Lisp(got))
	}
	got, _ = erase.Labels(late)
	want[0] = late[0]
	if !tree.Same(got, want) || got[0].At != 5 {
		t.Error(show.Lisp(got))
	}
	none := []api.Node{{Kind: api.NNone, At: 9}, {Kind: api.NNone}, {Kind: api.NLocal, Text: "x", Kids: []int{0, 1}}, {Kind: api.NBlock, Kids: []int{2}}, {Kind: api.NProgram, Kids: []int{3}}}
	if got, _ = erase.Tree(none); got[0].At != 9 || !tree.Same(got, none) {
		t.Error(show.Lisp(got))
	}
	got[4].Kids[0] = 0
	if none[4].Kids[0] != 3 {
		t.Error("kids are shared")
	}
}

// P14.1, P14.2, P14.3: what is no tree.
func TestNoTree(t *testing.T) {
	for _, l := range [][]api.Node{nil, {{Kind: api.NNil}}, make([]api.Node, api.MaxNodes+1)} {
		_, want := tree.Check(l)
		if got, e := erase.Tree(l); len(got) != 0 || e != want {
			t.Error(got, e)
		}
		if got, e := erase.Labels(l); len(got) != 0 || e != want {
			t.Error(got, e)
		}
		if erase.Free(l) {
			t.Error("free")
		}
	}
}

// P14.3
func TestFree(t *testing.T) {
	for s, want := range map[string]bool{"": true, "channel 1 = 0": true, "channel 1 = 0 channel 2 = 0": true, "channel 1 = 1": false, "channel 1 = 10": false, "channel 0 = 0 channel 1 = -1": false, "local x: int": true, "local x: int @ 0": false, "function f(a: any @ -1) end": false, "channel 1 = 0x8000000000000000": false} {
		if erase.Free(parsed(t, s)) != want {
			t.Error(s)
		}
	}
}

// P14.4
func TestOnce(t *testing.T) {
	for _, x := range programs {
		l := parsed(t, x.s)
		bare, _ := erase.Tree(l)
		free, _ := erase.Labels(l)
		bare2, _ := erase.Tree(bare)
		free2, _ := erase.Labels(free)
		one, e := erase.Labels(bare)
		other, _ := erase.Tree(free)
		if !tree.Same(bare, bare2) || !tree.Same(free, free2) || !tree.Same(one, other) || text(t, one, e) != x.both {
			t.Errorf("%q: %s %s", x.s, show.Lisp(one), show.Lisp(other))
		}
	}
}
