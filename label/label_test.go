package label_test

import (
	"math/rand"
	"slices"
	"testing"

	"ravelin/api"
	"ravelin/label"
)

// some answers edge labels and random ones.
func some() []api.Label {
	r := rand.New(rand.NewSource(1))
	l := []api.Label{0, 1, 2, 3, 1 << 63, ^api.Label(0), 1<<63 | 1, 0x5555555555555555}
	for range 40 {
		l = append(l, api.Label(r.Uint64()&r.Uint64()))
	}
	return l
}

// P1.1
func TestJoinMeet(t *testing.T) {
	if label.Join() != 0 || label.Join(4) != 4 || label.Join(1, 8, 2) != 11 || label.Meet(3, 6) != 2 {
		t.Fatal("join, meet")
	}
	l := []api.Label{1, 2}
	if label.Join(l...) != 3 || l[0] != 1 || l[1] != 2 {
		t.Fatal(l)
	}
}

// P1.2
func TestFlows(t *testing.T) {
	if !label.Flows(0, 0) || !label.Flows(1, 3) || label.Flows(3, 1) || label.Flows(1<<63, 1) || !label.Flows(1<<63, ^api.Label(0)) {
		t.Fatal("flows")
	}
}

// P1.3
func TestHasOfList(t *testing.T) {
	for _, p := range []int{-1, 64, 65, -1 << 63, 1<<63 - 1} {
		if label.Has(^api.Label(0), p) {
			t.Error(p)
		}
		if l, e := label.Of([]int{1, p}); l != 0 || e != api.ErrRange {
			t.Error(p, l, e)
		}
	}
	if !label.Has(1<<63, 63) || label.Has(1<<63, 62) || !label.Has(1, 0) {
		t.Error("has")
	}
	if l, e := label.Of(nil); l != 0 || e != api.OK {
		t.Error(l, e)
	}
	if l, e := label.Of([]int{5, 0, 5, 63}); l != 1<<63|33 || e != api.OK {
		t.Error(l, e)
	}
	for _, l := range some() {
		if back, e := label.Of(label.List(l)); back != l || e != api.OK || !slices.IsSorted(label.List(l)) {
			t.Error(l, back, e)
		}
	}
}

// P1.4
func TestShowParse(t *testing.T) {
	if label.Show(0) != "{}" || label.Show(9) != "{0,3}" || label.Show(1<<63|1<<10) != "{10,63}" {
		t.Error(label.Show(9))
	}
	for _, l := range some() {
		if back, is := label.Parse(label.Show(l)); back != l || !is {
			t.Error(l, back, is)
		}
	}
	for _, s := range []string{"", "{", "}", "{ }", "{3,0}", "{0,0}", "{00}", "{+1}", "{-0}", "{64}", "{-1}", "{0,}", "{,0}", "{,}", "{1 }", "{0}x", "x{0}", "{0;1}", "{99999999999999999999}", "{1_0}", "{{0}}", "0,3"} {
		if l, is := label.Parse(s); l != 0 || is {
			t.Error(s, l, is)
		}
	}
}

// P1.5
func TestLattice(t *testing.T) {
	for _, a := range some() {
		for _, b := range some() {
			flows := label.Flows(a, b)
			if flows != (label.Join(a, b) == b) || flows != (label.Meet(a, b) == a) {
				t.Error(a, b)
			}
			for _, c := range some()[:12] {
				if label.Flows(a, c) && label.Flows(b, c) != label.Flows(label.Join(a, b), c) {
					t.Error(a, b, c)
				}
				if label.Flows(c, a) && label.Flows(c, b) != label.Flows(c, label.Meet(a, b)) {
					t.Error(a, b, c)
				}
			}
		}
	}
}
