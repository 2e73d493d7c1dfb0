package table_test

import (
	"math/rand"
	"slices"
	"strconv"
	"testing"

	"ravelin/api"
	"ravelin/label"
	"ravelin/table"
)

func in(n int64, l ...api.Label) api.Value {
	return api.Value{Kind: api.Int, N: n, Label: label.Join(l...)}
}

func str(s string, l ...api.Label) api.Value {
	return api.Value{Kind: api.Str, S: s, Label: label.Join(l...)}
}

func put(t *testing.T, tab *table.Table, ctx api.Label, k, v api.Value, want api.Errno) {
	t.Helper()
	if e := tab.Put(ctx, k, v); e != want {
		t.Errorf("put %v %v: %d, not %d", k, v, e, want)
	}
}

// P4.1
func TestNewNil(t *testing.T) {
	if tab := table.New(5); tab.Label() != 5 || tab.Len() != 0 || len(tab.Fields()) != 0 || len(tab.Stamps()) != 0 {
		t.Error("new")
	}
	var none *table.Table
	if none.Label() != 0 || none.Len() != 0 || len(none.Fields()) != 0 || len(none.Stamps()) != 0 || none.Stamp(nil) || none.Put(0, str("a"), in(1)) != api.ErrKey {
		t.Error("nil")
	}
	if v := none.Get(str("a", 2)); v != (api.Value{Label: 2}) {
		t.Error(v)
	}
	if k, is := none.Key(1); is || k != (api.Value{}) {
		t.Error(k)
	}
	var zero table.Table
	put(t, &zero, 0, str("a"), in(1), api.OK)
	if !zero.Stamp([]api.Stamp{{Name: "a", Kinds: 4}}) || zero.Get(str("a")) != in(1) {
		t.Error("zero table")
	}
}

// P4.2
func TestGet(t *testing.T) {
	tab := table.New(8)
	put(t, tab, 0, str("a"), in(5, 1), api.OK)
	if v := tab.Get(str("a", 2)); v != in(5, 11) {
		t.Error(v)
	}
	for _, k := range []api.Value{str("b", 2), in(1, 2), {Kind: api.Nil, Label: 2}, {Kind: api.Bool, N: 1, Label: 2}, {Kind: api.Str, N: 1, S: "a", Label: 2}, {Kind: 77, Label: 2}, {Kind: api.Int, S: "x", Label: 2}} {
		if v := tab.Get(k); v != (api.Value{Label: 10}) {
			t.Error(k, v)
		}
	}
}

// P4.3
func TestPut(t *testing.T) {
	tab := table.New(0)
	put(t, tab, 1, str("a"), in(5), api.ErrFlow)
	put(t, tab, 0, str("a", 1), in(5), api.ErrFlow)
	put(t, tab, 0, str("a"), in(5, 1), api.OK)
	put(t, tab, 1, str("a"), in(9, 2), api.OK)
	if v := tab.Get(str("a")); v != in(9, 3) {
		t.Error(v)
	}
	put(t, tab, 0, str("a", 1), in(9), api.OK)
	if v := tab.Get(str("a")); v != in(9, 1) {
		t.Error(v)
	}
	put(t, tab, 0, str("a"), in(6), api.OK)
	put(t, tab, 1, str("a"), in(7), api.ErrFlow)
	put(t, tab, 0, str("a", 1), in(7), api.ErrFlow)
	put(t, tab, 0, str("a"), api.Value{}, api.OK)
	if tab.Len() != 1 || tab.Fields()[0] != (api.Field{Key: str("a")}) {
		t.Error(tab.Fields())
	}
	for _, k := range []api.Value{{}, {Kind: api.Bool}, {Kind: api.Table}, {Kind: api.Str, N: 1, S: "a"}, {Kind: api.Int, S: "x"}, {Kind: -1}} {
		put(t, tab, 1, k, in(1), api.ErrKey)
	}
	low := table.New(3)
	put(t, low, 1, in(4, 2), in(5, 4), api.OK)
	if f := low.Fields(); len(f) != 1 || f[0].Key != in(4) || f[0].Val != in(5, 7) {
		t.Error(f)
	}
	put(t, low, 4, in(5), in(5), api.ErrFlow)
	put(t, low, 0, str("4"), in(5), api.OK)
	if low.Len() != 2 {
		t.Error("keys of other kinds are others")
	}
}

// P4.3
func TestStampAhead(t *testing.T) {
	tab := table.New(0)
	put(t, tab, 0, str("a"), in(1), api.OK)
	put(t, tab, 0, in(1), in(1), api.OK)
	if !tab.Stamp([]api.Stamp{{Name: "a", Kinds: 1 << api.Int}}) {
		t.Fatal("stamp")
	}
	put(t, tab, 1, str("a"), str("x"), api.ErrStamp)
	put(t, tab, 1, str("a"), in(2), api.ErrFlow)
	put(t, tab, 0, str("a"), api.Value{Kind: 63}, api.ErrStamp)
	put(t, tab, 0, str("a"), api.Value{Kind: -1}, api.ErrStamp)
	put(t, tab, 0, in(1), str("x"), api.OK)
}

// P4.4
func TestOrder(t *testing.T) {
	tab := table.New(1)
	for n, k := range []api.Value{str("b"), in(7), str("a"), in(-1)} {
		put(t, tab, 0, k, in(int64(n)), api.OK)
	}
	put(t, tab, 0, in(7), in(70), api.OK)
	want := []api.Value{str("b"), in(7), str("a"), in(-1)}
	for n := range want {
		if k, is := tab.Key(int64(n + 1)); !is || k != want[n] || tab.Fields()[n].Key != k {
			t.Error(n, k)
		}
	}
	for _, n := range []int64{0, -1, 5, 1 << 62, -1 << 63} {
		if k, is := tab.Key(n); is || k != (api.Value{}) {
			t.Error(n, k)
		}
	}
	if tab.Len() != 4 || tab.Label() != 1 || tab.Fields()[1].Val != in(70) {
		t.Error(tab.Fields())
	}
	f := tab.Fields()
	f[0].Key, f[0].Val = in(99), in(99)
	if tab.Get(str("b", 0)) != in(0, 1) || tab.Fields()[0].Key != str("b") {
		t.Error("fields are shared")
	}
}

// P4.5
func TestStamps(t *testing.T) {
	tab := table.New(0)
	put(t, tab, 0, str("a"), in(1), api.OK)
	put(t, tab, 0, str("b"), api.Value{}, api.OK)
	put(t, tab, 0, in(1), in(1), api.OK)
	put(t, tab, 0, str("big"), api.Value{Kind: 63}, api.OK)
	if !tab.Stamp(nil) || len(tab.Stamps()) != 0 {
		t.Error("no stamps")
	}
	for _, l := range [][]api.Stamp{
		{{Name: "b", Kinds: 1}, {Name: "a", Kinds: 4}, {Name: "c", Kinds: 127}}, {{Name: "b", Kinds: 1}, {Name: "a", Kinds: 3}}, {{Name: "a", Kinds: 4}, {Name: "1", Kinds: 4}}, {{Name: "a", Kinds: 5}, {Name: "a", Kinds: 3}}, {{Name: "big", Kinds: -1}}, {{Name: "a", Kinds: 0}},
	} {
		if tab.Stamp(l) || len(tab.Stamps()) != 0 {
			t.Error(l, tab.Stamps())
		}
		put(t, tab, 0, str("a"), in(1), api.OK)
	}
	if !tab.Stamp([]api.Stamp{{Name: "b", Kinds: 7}, {Name: "a", Kinds: 6}, {Name: "b", Kinds: 3}}) || !slices.Equal(tab.Stamps(), []api.Stamp{{Name: "b", Kinds: 3}, {Name: "a", Kinds: 6}}) {
		t.Error(tab.Stamps())
	}
	if !tab.Stamp([]api.Stamp{{Name: "a", Kinds: 12}}) || !slices.Equal(tab.Stamps(), []api.Stamp{{Name: "b", Kinds: 3}, {Name: "a", Kinds: 4}}) {
		t.Error(tab.Stamps())
	}
	if tab.Stamp([]api.Stamp{{Name: "b", Kinds: 1}, {Name: "a", Kinds: 2}}) || !slices.Equal(tab.Stamps(), []api.Stamp{{Name: "b", Kinds: 3}, {Name: "a", Kinds: 4}}) {
		t.Error(tab.Stamps())
	}
	s := tab.Stamps()
	s[0].Kinds = 0
	if tab.Stamps()[0].Kinds != 3 {
		t.Error("stamps are shared")
	}
	l := []api.Stamp{{Name: "a", Kinds: 127}}
	if !tab.Stamp(l) || l[0].Kinds != 127 {
		t.Error("an argument was changed")
	}
}

// P4.6
func TestMonotone(t *testing.T) {
	r := rand.New(rand.NewSource(4))
	for range 200 {
		tab := table.New(api.Label(r.Intn(4)))
		for range 60 {
			fields, stamps := tab.Fields(), tab.Stamps()
			name := strconv.Itoa(r.Intn(4))
			if r.Intn(3) == 0 {
				tab.Stamp([]api.Stamp{{Name: name, Kinds: r.Intn(128)}, {Name: strconv.Itoa(r.Intn(4)), Kinds: r.Intn(128)}})
			} else {
				tab.Put(api.Label(r.Intn(4)), str(name, api.Label(r.Intn(4)&r.Intn(4))), api.Value{Kind: r.Intn(7), Label: api.Label(r.Intn(4))})
			}
			for n, f := range fields {
				if tab.Fields()[n].Key != f.Key {
					t.Fatal("order")
				}
			}
			for n, s := range stamps {
				if now := tab.Stamps()[n]; now.Name != s.Name || now.Kinds&^s.Kinds != 0 {
					t.Fatal("stamps")
				}
			}
			for _, s := range tab.Stamps() {
				if s.Kinds>>tab.Get(str(s.Name)).Kind&1 == 0 {
					t.Fatal("a stamp is broken")
				}
			}
		}
	}
}
