package dup_test

import (
	"testing"

	"ravelin/api"
	"ravelin/dup"
	"ravelin/tree"
	"ravelin/types"
)

func TestType(t *testing.T) {
	a := api.Type{Kind: api.TShape, Names: []string{"a"}, Args: []api.Type{{Kind: api.TUnion, Args: []api.Type{{Kind: api.TNil}, {Kind: api.TInt}}}}}
	b := dup.Types([]api.Type{a, a})
	if !types.Same(a, b[0]) || !types.Same(a, b[1]) {
		t.Fatal(b)
	}
	b[0].Names[0], b[0].Args[0].Args[1].Kind = "b", api.TStr
	if types.Show(a) != "{a: nil | int}" || types.Show(b[1]) != "{a: nil | int}" {
		t.Error(types.Show(a))
	}
	loop := make([]api.Type, 1)
	loop[0].Args = loop
	if dup.Type(loop[0]).Args[0].Kind != 0 {
		t.Error("a type that holds itself")
	}
}

func TestAlike(t *testing.T) {
	a := api.Type{Kind: 42, Names: []string{"a"}, Args: []api.Type{{Kind: -1}}}
	if !dup.Alike(a, dup.Type(a)) || dup.Alike(a, api.Type{}) || dup.Alike(a, api.Type{Kind: 42, Names: []string{"b"}, Args: a.Args}) || dup.Alike(a, api.Type{Kind: 42, Names: a.Names}) {
		t.Error("alike")
	}
	loop := make([]api.Type, 1)
	loop[0].Args = loop
	if dup.Alike(loop[0], loop[0]) {
		t.Error("a type that holds itself is like none")
	}
}

func TestNodes(t *testing.T) {
	a := []api.Node{{Kind: api.NNil}, {Kind: api.NUn, Text: "-", Kids: []int{0}, At: 3}}
	b := dup.Nodes(a)
	if !tree.Same(a, b) || b[1].At != 3 {
		t.Fatal(b)
	}
	b[0].Kind, b[1].Kids[0] = 5, 7
	if a[0].Kind != api.NNil || a[1].Kids[0] != 0 {
		t.Error(a)
	}
}
