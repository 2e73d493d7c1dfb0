package heap_test

import (
	"math"
	"math/rand"
	"testing"

	"ravelin/api"
	"ravelin/heap"
	"ravelin/types"
)

func in(n int64) api.Value   { return api.Value{Kind: api.Int, N: n} }
func str(s string) api.Value { return api.Value{Kind: api.Str, S: s} }

func with(v api.Value, l api.Label) api.Value {
	v.Label = l
	return v
}

func ty(kind int, args ...api.Type) api.Type { return api.Type{Kind: kind, Args: args} }

func shape(name string, t api.Type) api.Type {
	return api.Type{Kind: api.TShape, Names: []string{name}, Args: []api.Type{t}}
}

// P21.1
func TestRoom(t *testing.T) {
	h := heap.New(5)
	if h.Used() != 0 || !h.Charge(3) || h.Used() != 3 || !h.Charge(-7) || h.Charge(3) || h.Used() != 3 || !h.Charge(2) || h.Charge(1) || !h.Charge(0) || h.Charge(math.MaxInt) {
		t.Error(h.Used())
	}
	for _, h := range []*heap.Heap{heap.New(0), heap.New(-5), heap.New(math.MinInt)} {
		if h.Charge(1) || !h.Charge(0) || h.Used() != 0 {
			t.Error("no room")
		}
	}
	if h := heap.New(math.MaxInt); !h.Charge(math.MaxInt) || h.Charge(1) {
		t.Error("all room")
	}
	for _, h := range []*heap.Heap{nil, {}} {
		_, a := h.Table(0)
		_, b := h.Closure(0, nil)
		_, c := h.Cell(in(1))
		_, d := h.Fn(api.Value{Kind: api.Func})
		e, _ := h.Put(0, api.Value{Kind: api.Table}, in(1), in(1))
		if h.Used() != 0 || h.Charge(1) || a || b || c || d || e != api.ErrNone || h.Store(0, 0, in(1)) != api.ErrNone || h.Load(0) != (api.Value{}) || h.Of(api.Value{Kind: api.Table}) != nil || h.Get(api.Value{Kind: api.Table, Label: 1}, in(1)) != (api.Value{}) {
			t.Error("nothing")
		}
		if h.Base(in(3)) != in(3) || !h.Equal(in(3), in(3)) {
			t.Error("base")
		}
		h.Cast(in(1), ty(api.TFunc, ty(0)), 0)
	}
	var none *heap.Heap
	if v, can, room := none.Cast(in(1), api.Type{}, 0); v != (api.Value{}) || can || room {
		t.Error("cast of a nil heap")
	}
}

// P21.2, P21.3
func TestTables(t *testing.T) {
	h := heap.New(4)
	a, _ := h.Table(1)
	b, is := h.Table(0)
	if a != (api.Value{Kind: api.Table}) || b != (api.Value{Kind: api.Table, N: 1}) || !is || h.Used() != 2 || h.Of(a).Label() != 1 {
		t.Fatal(a, b)
	}
	if e, room := h.Put(0, with(a, 8), str("a"), in(5)); e != api.OK || !room || h.Used() != 3 {
		t.Error(e, room)
	}
	if v := h.Get(with(a, 8), str("a")); v != with(in(5), 1) {
		t.Error(v)
	}
	if e, room := h.Put(2, a, str("b"), in(5)); e != api.ErrFlow || !room || h.Used() != 3 {
		t.Error(e, room)
	}
	if e, room := h.Put(0, a, api.Value{}, in(5)); e != api.ErrKey || !room {
		t.Error(e, room)
	}
	h.Put(0, b, in(1), in(1))
	if h.Used() != 4 {
		t.Error(h.Used())
	}
	for _, x := range []struct {
		ctx  api.Label
		key  api.Value
		e    api.Errno
		room bool
	}{{0, str("a"), api.OK, true}, {0, str("b"), api.OK, false}, {2, str("b"), api.ErrFlow, true}, {0, api.Value{}, api.ErrKey, true}, {2, str("a"), api.ErrFlow, true}, {0, with(str("b"), 4), api.ErrFlow, true}} {
		if e, room := h.Put(x.ctx, a, x.key, in(6)); e != x.e || room != x.room || h.Of(a).Len() != 1 {
			t.Error(x, e, room)
		}
	}
	if _, room := h.Table(0); room || h.Used() != 4 {
		t.Error("room")
	}
	for _, v := range []api.Value{in(0), {Kind: api.Table, N: 2}, {Kind: api.Table, N: -1}, {Kind: api.Func}} {
		e, room := h.Put(0, v, str("a"), in(1))
		if e != api.ErrNone || !room || h.Of(v) != nil || h.Get(v, str("a")) != (api.Value{}) {
			t.Error(v, e, room)
		}
	}
}

// P21.4
func TestFunctions(t *testing.T) {
	h := heap.New(7)
	cells := []int{4, 5}
	f, is := h.Closure(3, cells)
	if f != (api.Value{Kind: api.Func}) || !is || h.Used() != 3 {
		t.Fatal(f, h.Used())
	}
	cells[0] = 9
	fn, is := h.Fn(f)
	if !is || fn.Proto != 3 || fn.Wraps || len(fn.Cells) != 2 || fn.Cells[0] != 4 {
		t.Error(fn)
	}
	fn.Cells[0] = 9
	if fn, _ = h.Fn(f); fn.Cells[0] != 4 {
		t.Error("cells are shared")
	}
	to := ty(api.TFunc, ty(api.TInt))
	w, can, room := h.Cast(with(f, 6), to, 8)
	if w != with(api.Value{Kind: api.Func, N: 1}, 6) || !can || !room || h.Used() != 4 {
		t.Error(w, can, room)
	}
	fn, is = h.Fn(w)
	if !is || !fn.Wraps || fn.Cast != 8 || fn.Inner != with(f, 6) || !types.Same(fn.To, to) || fn.Proto != 0 || len(fn.Cells) != 0 {
		t.Error(fn)
	}
	if same, can, _ := h.Cast(w, to, 9); same != w || !can || h.Used() != 4 {
		t.Error("a wrapper of that type is as it is")
	}
	v, _, _ := h.Cast(w, ty(api.TFunc, ty(api.TStr)), 1)
	g, _ := h.Closure(0, nil)
	if h.Base(v) != with(f, 6) || h.Base(g) != g || h.Base(in(1)) != in(1) || h.Base(api.Value{Kind: api.Func, N: 77}) != (api.Value{Kind: api.Func, N: 77}) {
		t.Error(h.Base(v))
	}
	if !h.Equal(f, v) || !h.Equal(w, v) || h.Equal(f, g) || h.Equal(f, in(0)) || !h.Equal(in(1), with(in(1), 3)) {
		t.Error("equal")
	}
	for _, v := range []api.Value{in(0), {Kind: api.Func, N: 4}, {Kind: api.Func, N: -1}} {
		if fn, is := h.Fn(v); is || fn.Wraps || fn.Proto != 0 {
			t.Error(v)
		}
	}
	if _, is := h.Closure(0, []int{1}); is || h.Used() != 6 {
		t.Error("room", h.Used())
	}
	h.Charge(1)
	if v, can, room := h.Cast(g, to, 0); v != (api.Value{}) || can || room {
		t.Error(v, can, room)
	}
}

// P21.5
func TestCells(t *testing.T) {
	h := heap.New(2)
	a, _ := h.Cell(with(in(5), 1))
	b, is := h.Cell(in(6))
	if a != 0 || b != 1 || !is || h.Used() != 2 || h.Load(0) != with(in(5), 1) || h.Load(1) != in(6) {
		t.Error(a, b)
	}
	if n, is := h.Cell(in(7)); is || n != 0 {
		t.Error(n)
	}
	if h.Store(2, 0, in(7)) != api.ErrFlow || h.Load(0) != with(in(5), 1) || h.Store(1, 0, with(in(7), 4)) != api.OK || h.Load(0) != with(in(7), 5) || h.Store(0, 0, in(8)) != api.OK || h.Load(0) != in(8) {
		t.Error(h.Load(0))
	}
	for _, n := range []int{-1, 2, math.MaxInt, math.MinInt} {
		if h.Store(0, n, in(1)) != api.ErrNone || h.Load(n) != (api.Value{}) {
			t.Error(n)
		}
	}
}

// P21.6
func TestCast(t *testing.T) {
	h := heap.New(100)
	tab, _ := h.Table(0)
	f, _ := h.Closure(0, nil)
	h.Put(0, tab, str("a"), in(1))
	union := ty(api.TUnion, ty(api.TNil), ty(api.TInt))
	arrow := ty(api.TFunc, ty(api.TInt))
	for n, x := range []struct {
		v   api.Value
		to  api.Type
		can bool
	}{
		{in(1), ty(api.TInt), true}, {in(1), ty(api.TStr), false}, {in(1), union, true}, {api.Value{}, union, true}, {str("a"), union, false}, {in(1), ty(api.TAny), true}, {f, ty(api.TAny), true}, {api.Value{Kind: api.Table, N: 99}, ty(api.TTable), true}, {api.Value{Kind: 7}, ty(api.TAny), false}, {api.Value{Kind: -1}, ty(api.TAny), false}, {api.Value{Kind: math.MaxInt}, ty(api.TInt), false},
		{api.Value{Kind: api.Thread}, ty(api.TThread), true}, {f, ty(api.TTable), false}, {tab, shape("a", ty(api.TInt)), true}, {tab, shape("a", ty(api.TStr)), false}, {tab, shape("b", ty(api.TAny)), false}, {in(1), shape("a", ty(api.TInt)), false}, {api.Value{Kind: api.Table, N: 99}, ty(api.TShape), false}, {tab, ty(api.TShape), true},
		{tab, arrow, false}, {api.Value{Kind: api.Func, N: 99}, arrow, false}, {in(1), ty(api.TUnion), false}, {f, ty(api.TFunc), false}, {in(1), ty(-1), false}, {in(1), ty(10), false},
	} {
		x.v.Label = 6
		want := x.v
		if !x.can {
			want = api.Value{}
		}
		if v, can, room := h.Cast(x.v, x.to, 3); v != want || can != x.can || !room {
			t.Error(n, v, can, room)
		}
	}
	if s := h.Of(tab).Stamps(); len(s) != 1 || s[0] != (api.Stamp{Name: "a", Kinds: 1 << api.Int}) {
		t.Error(s)
	}
	if e, _ := h.Put(0, tab, str("a"), str("x")); e != api.ErrStamp {
		t.Error(e)
	}
	w, _, _ := h.Cast(f, arrow, 3)
	arrow.Args[0].Kind = api.TStr
	fn, _ := h.Fn(w)
	fn.To.Args[0].Kind = api.TBool
	if fn, _ = h.Fn(w); types.Show(fn.To) != "() -> int" {
		t.Error("types are shared")
	}
}

// P21.7
func TestBeneath(t *testing.T) {
	r := rand.New(rand.NewSource(21))
	all := []api.Type{ty(0), ty(3), ty(api.TFunc, ty(0)), ty(api.TFunc, ty(3)), ty(api.TFunc, ty(0), ty(3)), shape("a", ty(3)), shape("a", ty(0)), ty(api.TTable)}
	h := heap.New(100000)
	tab, _ := h.Table(0)
	h.Put(0, tab, str("a"), in(1))
	f, _ := h.Closure(0, nil)
	values := []api.Value{tab, f, in(1), str("x")}
	for range 2000 {
		v, to := with(values[r.Intn(len(values))], api.Label(r.Intn(8))), all[r.Intn(len(all))]
		got, can, _ := h.Cast(v, to, 1)
		if !can {
			continue
		}
		used := h.Used()
		again, can, _ := h.Cast(got, to, 2)
		if h.Base(got) != h.Base(v) || got.Label != v.Label || again != got || !can || h.Used() != used {
			t.Fatal(v, got, again)
		}
		if got.Kind == api.Func {
			values = append(values, got)
		}
	}
}
