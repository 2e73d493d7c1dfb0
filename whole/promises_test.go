package whole

import (
	"math/rand"
	"slices"
	"testing"

	"ravelin/api"
	"ravelin/check"
	"ravelin/erase"
	"ravelin/observe"
	"ravelin/parse"
	runs "ravelin/run"
	"ravelin/show"
	"ravelin/trace"
	"ravelin/vm"
)

// arrows tells whether a function's type is written in a tree, or cast to.
func arrows(l []api.Node, e api.Elab) bool {
	return slices.ContainsFunc(l, func(n api.Node) bool { return n.Kind == api.NTFunc }) ||
		slices.ContainsFunc(e.Casts, func(c api.Cast) bool { return c.To.Kind == api.TFunc })
}

// P26.7, G5
func TestErased(t *testing.T) {
	r, many := random(29, 4000)
	compared := 0
	for range many {
		l, at, err := parse.Program(program(r, true))
		if err != api.OK {
			t.Fatal(at, err)
		}
		if r.Intn(4) > 0 {
			l, _ = erase.Labels(l)
		}
		e, _, err := check.Tree(l)
		if err != api.OK || !erase.Free(l) || arrows(l, e) {
			continue
		}
		in := inputs(r)
		a, _, err := runs.Tree(l, in, tight)
		b, _, err2 := runs.Bare(l, in, tight)
		if err != api.OK || err2 != api.OK || a.End == api.EndStop || b.End == api.EndStop || b.End == api.EndBlame {
			t.Fatal(err, err2, brief(a), brief(b))
		}
		if a.End >= api.EndFuel || b.End >= api.EndFuel {
			continue
		}
		compared++
		same := a.End == b.End && a.Value == b.Value && slices.Equal(a.Events, b.Events) && a.Places == b.Places
		if a.End == api.EndBlame {
			same = trace.Begins(a.Events, b.Events)
		}
		if !same {
			text, _ := show.Program(l)
			t.Fatal(text, brief(a), brief(b))
		}
	}
	if compared < 100 {
		t.Error(compared)
	}
}

// P26.8
func TestLabels(t *testing.T) {
	r, many := random(30, 4000)
	compared := 0
	for range many {
		l, _, _ := parse.Program(program(r, r.Intn(2) == 0))
		free, _ := erase.Labels(l)
		in := inputs(r)
		lim := api.Limits{Fuel: 3000, Frames: 2 + r.Intn(20), Cells: r.Intn(60), Bytes: 20}
		a, _, err := runs.Tree(l, in, lim)
		b, _, err2 := runs.Tree(free, in, lim)
		if err != api.OK || err2 != api.OK || a.End == api.EndFuel || b.End == api.EndFuel {
			continue
		}
		compared++
		same := a.End == b.End && a.Value == b.Value && slices.Equal(a.Events, b.Events) && a.Places == b.Places
		if a.End == api.EndStop {
			same = trace.Begins(a.Events, b.Events)
		}
		if !same {
			text, _ := show.Program(l)
			t.Fatal(text, brief(a), brief(b))
		}
	}
	if compared < 100 {
		t.Error(compared)
	}
}

// P26.6
func TestFiles(t *testing.T) {
	r, many := random(31, 1000)
	for range many {
		s := program(r, r.Intn(2) == 0)
		in := inputs(r)
		a, at, err := runs.Source(s, in, tight)
		b, at2, err2 := runs.Compile(s)
		if at != at2 || err != err2 {
			t.Fatal(s, at, err, at2, err2)
		}
		if err != api.OK {
			continue
		}
		c, err := runs.File(b, in, tight)
		if err != api.OK || !vm.Same(a, c) || a.Done != c.Done || a.Slips != c.Slips {
			t.Fatal(s, brief(a), brief(c), err)
		}
	}
}

// P27.4, P27.5, G1
func TestObserved(t *testing.T) {
	r, many := random(32, 2000)
	for range many {
		s := program(r, r.Intn(2) == 0)
		a, b := inputs(r), inputs(r)
		see := api.Label(r.Intn(4))
		is, _, err := observe.Source(s, a, b, tight, api.Limits{Fuel: r.Intn(1000), Frames: 20, Cells: 100, Bytes: 100}, see)
		if err == api.OK && !is {
			t.Fatal(s, a, b, see)
		}
	}
}

// G6: any tokens put together are an error with a place, or one of eight outcomes.
func TestAnyText(t *testing.T) {
	r := rand.New(rand.NewSource(33))
	pieces := []string{"local ", "x ", "= ", "1 ", "f ", "function ", "( ", ") ", "end ", "if ", "then ", "read(1) ", "write(0, ", "return ", "{ ", "} ", "a ", ". ", "+ ", ": int ", "channel 1 = 1 ", "\"s\" ", "while ", "do ", "break ", "pcall( ", "\x00", "@ "}
	for range 20000 {
		s := ""
		for range r.Intn(12) {
			s += pieces[r.Intn(len(pieces))]
		}
		res, at, err := runs.Source(s, inputs(r), tight)
		if at < 0 || at > len(s) || res.End < 0 || res.End > api.EndBytes || err != api.OK && (res.End != 0 || res.Done != 0) {
			t.Fatalf("%q %d %d", s, at, err)
		}
	}
}
