package guard_test

import (
	"math"
	"math/rand"
	"slices"
	"testing"

	"ravelin/api"
	"ravelin/guard"
	"ravelin/label"
)

// P22.1
func TestNew(t *testing.T) {
	g := guard.New(5)
	if g.Pc() != 5 || g.Deep() != 0 || len(g.At(0)) != 0 {
		t.Error(g)
	}
	var none *guard.Guard
	none.Branch(1, 2, 3)
	if none.Pc() != ^api.Label(0) || none.Deep() != 0 || len(none.At(2)) != 0 || none.May(1) || !none.May(^api.Label(0)) {
		t.Error("nil")
	}
	var zero guard.Guard
	zero.Branch(1, 2, 3)
	if zero.Pc() != 1 || zero.Deep() != 1 {
		t.Error("zero")
	}
}

// P22.2, P22.3
func TestRegions(t *testing.T) {
	g := guard.New(1)
	g.Branch(2, 9, 4)
	g.Branch(4, 9, 6)
	if g.Pc() != 7 || g.Deep() != 1 {
		t.Error(g.Pc(), g.Deep())
	}
	if tags := g.At(8); len(tags) != 0 || g.Pc() != 7 {
		t.Error(tags)
	}
	if tags := g.At(9); !slices.Equal(tags, []int{4}) || g.Pc() != 1 || g.Deep() != 0 {
		t.Error(tags, g.Pc())
	}
	g.Branch(2, 9, 1)
	g.Branch(4, 8, 2)
	g.Branch(8, 9, 3)
	if g.Deep() != 3 || g.Pc() != 15 {
		t.Error(g.Deep(), g.Pc())
	}
	if tags := g.At(8); len(tags) != 0 {
		t.Error(tags)
	}
	if tags := g.At(9); !slices.Equal(tags, []int{3}) || g.Pc() != 7 {
		t.Error(tags, g.Pc())
	}
	if tags := g.At(8); !slices.Equal(tags, []int{2}) || g.Pc() != 3 {
		t.Error(tags, g.Pc())
	}
	if tags := g.At(9); !slices.Equal(tags, []int{1}) || g.Pc() != 1 || g.Deep() != 0 {
		t.Error(tags, g.Pc())
	}
	g.Branch(2, -1, 1)
	g.Branch(4, -7, 2)
	g.Branch(8, math.MinInt, 3)
	if g.Deep() != 1 || g.Pc() != 15 || len(g.At(-1)) != 0 || len(g.At(-7)) != 0 || g.Deep() != 1 {
		t.Error(g.Deep(), g.Pc())
	}
	g.Branch(16, 3, 4)
	if tags := g.At(3); !slices.Equal(tags, []int{4}) || g.Pc() != 15 {
		t.Error(tags)
	}
}

// P22.4
func TestMay(t *testing.T) {
	g := guard.New(1)
	g.Branch(2, 9, 4)
	if !g.May(3) || g.May(1) || g.May(2) || !g.May(7) {
		t.Error("may")
	}
}

// P22.5
func TestNeverBelow(t *testing.T) {
	r := rand.New(rand.NewSource(22))
	for range 500 {
		first := api.Label(r.Intn(4))
		g := guard.New(first)
		var within []api.Label
		for range 60 {
			if r.Intn(2) == 0 {
				l := api.Label(1 << r.Intn(10))
				deep := g.Deep()
				g.Branch(l, r.Intn(6)-1, 0)
				if g.Deep() > deep {
					within = append(within, 0)
				}
				within[len(within)-1] |= l
			} else {
				closed := len(g.At(r.Intn(6) - 1))
				within = within[:len(within)-closed]
			}
			least := label.Join(append(slices.Clone(within), first)...)
			if g.Pc() != least || g.Deep() != len(within) {
				t.Fatal(g.Pc(), least)
			}
		}
	}
}
