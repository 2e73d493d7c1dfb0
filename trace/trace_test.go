package trace_test

import (
	"math"
	"math/rand"
	"slices"
	"testing"

	"ravelin/api"
	"ravelin/trace"
)

func ev(k, kind int, n int64, s string) api.Event {
	return api.Event{Channel: k, Kind: kind, N: n, S: s}
}

// P25.1
func TestLow(t *testing.T) {
	l := []api.Event{ev(0, 2, 1, ""), ev(1, 2, 2, ""), ev(-1, 2, 3, ""), ev(8, 2, 4, ""), ev(math.MaxInt, 2, 4, ""), ev(2, 2, 5, ""), ev(1, 2, 6, "")}
	masks := [8]api.Label{1: 1, 2: 3}
	for see, want := range map[api.Label][]int{0: {0}, 1: {0, 1, 6}, 2: {0}, 3: {0, 1, 5, 6}} {
		var b []api.Event
		for _, n := range want {
			b = append(b, l[n])
		}
		if got := trace.Low(l, masks, see); !slices.Equal(got, b) {
			t.Error(see, got)
		}
	}
	if len(trace.Low(nil, masks, 3)) != 0 {
		t.Error("none")
	}
	got := trace.Low(l, masks, 3)
	got[0].N = 99
	if l[0].N != 1 {
		t.Error("events are shared")
	}
}

// P25.2
func TestBegins(t *testing.T) {
	a := []api.Event{ev(1, 2, 3, ""), ev(2, 3, 0, "x")}
	if !trace.Begins(nil, nil) || !trace.Begins(nil, a) || !trace.Begins(a[:1], a) || !trace.Begins(a, a) || trace.Begins(a, a[:1]) || trace.Begins(a, nil) || trace.Begins(a[1:], a) {
		t.Error("begins")
	}
	for _, e := range []api.Event{ev(0, 2, 3, ""), ev(1, 1, 3, ""), ev(1, 2, 4, ""), ev(1, 2, 3, "y")} {
		if trace.Begins([]api.Event{e}, a) {
			t.Error(e)
		}
	}
}

// P25.3
func TestShow(t *testing.T) {
	l := []api.Event{ev(2, api.Int, 5, ""), ev(0, api.Nil, 0, ""), ev(1, api.Bool, 0, ""), ev(1, api.Bool, 7, ""), ev(7, api.Str, 0, "a\"\n"), ev(3, api.Table, 0, ""), ev(3, api.Func, 0, ""), ev(3, api.Thread, 0, ""), ev(-4, 7, 0, ""), ev(12, -1, 0, ""), ev(0, api.Int, math.MinInt64, "")}
	want := "2 5\n0 nil\n1 false\n1 true\n7 \"a\\\"\\n\"\n3 table\n3 function\n3 thread\n-4 ?\n12 ?\n0 -9223372036854775808\n"
	if got := trace.Show(l); got != want {
		t.Errorf("%q", got)
	}
	if trace.Show(nil) != "" {
		t.Error("none")
	}
}

// P25.4
func TestAlike(t *testing.T) {
	masks := [8]api.Label{1: 1, 2: 2, 7: 3}
	a := api.Inputs{{1}, {2}, {3}, {}}
	for k, see := range map[int][]api.Label{0: {}, 1: {0, 2}, 2: {0, 1}, 7: {0, 1, 2}} {
		b := a
		b[k] = []int64{9}
		for l := range api.Label(4) {
			if trace.Alike(a, b, masks, l) != slices.Contains(see, l) {
				t.Error(k, l)
			}
		}
	}
	if !trace.Alike(a, api.Inputs{{1}, {2}, {3}}, masks, 3) || trace.Alike(a, api.Inputs{{1, 1}, {2}, {3}}, masks, 3) {
		t.Error("lengths")
	}
}

// P25.5
func TestPrefixes(t *testing.T) {
	r := rand.New(rand.NewSource(28))
	for range 2000 {
		var l []api.Event
		for range r.Intn(8) {
			l = append(l, ev(r.Intn(9), 2, int64(r.Intn(3)), ""))
		}
		a := l[:r.Intn(len(l)+1)]
		masks := [8]api.Label{1, 2, 3, 0, 4}
		see := api.Label(r.Intn(8))
		if !trace.Begins(trace.Low(a, masks, see), trace.Low(l, masks, see)) {
			t.Fatal(l, a)
		}
	}
}
