package world_test

import (
	"math"
	"slices"
	"testing"

	"ravelin/api"
	"ravelin/world"
)

func in(n int64, l api.Label) api.Value { return api.Value{Kind: api.Int, N: n, Label: l} }

// P23.1, P23.2
func TestRead(t *testing.T) {
	inputs := api.Inputs{1: {7, -8}, 7: {9}}
	w := world.New([8]api.Label{1: 3}, inputs)
	inputs[1][0] = 99
	for _, k := range []int{-1, 8, math.MaxInt, math.MinInt} {
		if v, e := w.Read(^api.Label(0), k); v != (api.Value{}) || e != api.ErrRange {
			t.Error(k, v, e)
		}
	}
	if v, e := w.Read(4, 1); v != (api.Value{}) || e != api.ErrFlow || w.Places() != [8]int{} {
		t.Error(v, e)
	}
	for _, want := range []api.Value{in(7, 3), in(-8, 3), {Label: 3}, {Label: 3}} {
		if v, e := w.Read(2, 1); v != want || e != api.OK {
			t.Error(v, e)
		}
	}
	if v, e := w.Read(0, 7); v != in(9, 0) || e != api.OK {
		t.Error(v, e)
	}
	if v, e := w.Read(0, 0); v != (api.Value{}) || e != api.OK {
		t.Error(v, e)
	}
	if w.Places() != [8]int{1: 2, 7: 1} {
		t.Error(w.Places())
	}
}

// P23.3, P23.4
func TestWrite(t *testing.T) {
	w := world.New([8]api.Label{0: 1}, api.Inputs{})
	for _, x := range []struct {
		pc   api.Label
		k    int
		v    api.Value
		want api.Errno
	}{
		{0, 1, in(5, 1), api.ErrFlow}, {1, 1, in(5, 0), api.ErrFlow}, {0, 0, in(5, 1), api.OK}, {1, 0, in(6, 0), api.OK}, {2, 0, in(6, 0), api.ErrFlow}, {0, -1, in(6, 0), api.ErrRange}, {9, 8, in(6, 9), api.ErrRange},
		{0, 2, api.Value{}, api.OK}, {0, 3, api.Value{Kind: api.Bool, N: 1}, api.OK}, {0, 3, api.Value{Kind: api.Str, S: "a"}, api.OK}, {0, 3, api.Value{Kind: api.Table, N: 4}, api.OK}, {0, 3, api.Value{Kind: api.Func, N: 4, S: "x"}, api.OK}, {0, 3, api.Value{Kind: api.Thread, N: 4}, api.OK},
	} {
		if e := w.Write(x.pc, x.k, x.v); e != x.want {
			t.Error(x, e)
		}
	}
	want := []api.Event{{Kind: api.Int, N: 5}, {Kind: api.Int, N: 6}, {Channel: 2}, {Channel: 3, Kind: api.Bool, N: 1}, {Channel: 3, Kind: api.Str, S: "a"}, {Channel: 3, Kind: api.Table}, {Channel: 3, Kind: api.Func}, {Channel: 3, Kind: api.Thread}}
	if !slices.Equal(w.Events(), want) {
		t.Error(w.Events())
	}
	w.Events()[0].N = 99
	if !slices.Equal(w.Events(), want) {
		t.Error("events are shared")
	}
}

// P23.1
func TestNil(t *testing.T) {
	var w *world.World
	if v, e := w.Read(0, 0); v != (api.Value{}) || e != api.ErrRange {
		t.Error(v, e)
	}
	if w.Write(0, 0, in(1, 0)) != api.ErrRange || len(w.Events()) != 0 || w.Places() != [8]int{} {
		t.Error("nothing")
	}
	var zero world.World
	zero.Read(0, 0)
	zero.Write(0, 0, in(1, 0))
}
