package run_test

import (
	"bytes"
	"slices"
	"strings"
	"testing"

	"ravelin/api"
	"ravelin/binary"
	"ravelin/check"
	"ravelin/erase"
	"ravelin/parse"
	"ravelin/run"
	"ravelin/show"
	"ravelin/vm"
)

var wide = api.Limits{Fuel: 1000, Frames: 10, Cells: 100, Bytes: 100}

// P26.1
func TestSource(t *testing.T) {
	r, at, e := run.Source("write(0, 1 + 2)", api.Inputs{}, wide)
	if e != api.OK || at != 0 || r.End != api.EndDone || !slices.Equal(r.Events, []api.Event{{Kind: api.Int, N: 3}}) {
		t.Error(r, at, e)
	}
	r, _, _ = run.Source("read(1) return read(1)", api.Inputs{1: {5, 6, 7}}, wide)
	if r.Value != (api.Value{Kind: api.Int, N: 6}) || r.Places != [8]int{1: 2} {
		t.Error(r)
	}
	for s, want := range map[string]struct {
		at int
		e  api.Errno
	}{
		"x = !": {4, api.ErrToken}, "local x x": {8, api.ErrSyntax}, "  x()": {2, api.ErrScope}, "local x: int = \"\"": {15, api.ErrFit}, "function f(): int end": {0, api.ErrReturn}, strings.Repeat(" ", 100001): {0, api.ErrLong},
	} {
		if r, at, e := run.Source(s, api.Inputs{}, wide); at != want.at || e != want.e || !vm.Same(r, api.Result{}) || r.Done != 0 {
			t.Errorf("%.30q: %d %d", s, at, e)
		}
	}
	s := "local f " + strings.Repeat("f() ", 15500)
	l, _, _ := parse.Program(s)
	_, n, e := run.Tree(l, api.Inputs{}, wide)
	if _, at, e2 := run.Source(s, api.Inputs{}, wide); e != api.ErrLong || e2 != api.ErrLong || at != l[n].At || n == 0 {
		t.Error(n, at, e, e2)
	}
}

// P26.2, P26.3
func TestTreeBare(t *testing.T) {
	l, _, _ := parse.Program("local x: any = \"s\" local y: int = x write(0, y)")
	if r, n, e := run.Tree(l, api.Inputs{}, wide); r.End != api.EndBlame || r.At != 34 || r.Side != 1 || n != 0 || e != api.OK {
		t.Error(r, n, e)
	}
	if r, n, e := run.Bare(l, api.Inputs{}, wide); r.End != api.EndDone || len(r.Events) != 1 || r.Events[0].S != "s" || n != 0 || e != api.OK {
		t.Error(r, n, e)
	}
	l, _, _ = parse.Program("local x: int = \"s\" return x")
	if r, n, e := run.Tree(l, api.Inputs{}, wide); e != api.ErrFit || l[n].Kind != api.NStr || !vm.Same(r, api.Result{}) {
		t.Error(r, n, e)
	}
	if r, _, e := run.Bare(l, api.Inputs{}, wide); e != api.OK || r.Value.S != "s" {
		t.Error(r, e)
	}
	l, _, _ = parse.Program("channel 1 = 1 local x: any @ 0 = read(1) write(0, x)")
	if r, _, _ := run.Tree(l, api.Inputs{}, wide); r.End != api.EndStop {
		t.Error(r)
	}
	if r, _, _ := run.Bare(l, api.Inputs{}, wide); r.End != api.EndDone || len(r.Events) != 1 {
		t.Error(r)
	}
	for _, l := range [][]api.Node{nil, {{Kind: api.NNil}, {Kind: api.NNil, Kids: []int{0}}}, make([]api.Node, api.MaxNodes+1)} {
		_, n, e := check.Tree(l)
		if r, at, err := run.Tree(l, api.Inputs{}, wide); at != n || err != e || r.Done != 0 {
			t.Error(at, err)
		}
		if r, at, err := run.Bare(l, api.Inputs{}, wide); at != n || err != e || r.Done != 0 {
			t.Error(at, err)
		}
	}
	l, _, _ = parse.Program("local x: int | nil = 1 y()")
	r, n, e := run.Bare(l, api.Inputs{}, wide)
	bare, _ := erase.Tree(l)
	if e != api.ErrScope || bare[n].Text != "y" || r.Done != 0 {
		t.Error(n, e)
	}
}

// P26.4, P26.5, P26.6
func TestFiles(t *testing.T) {
	s := "channel 1 = 1 local x = read(1) write(1, x) function f(a: int): int return a * 2 end write(0, f(21)) error(\"e\")"
	b, at, e := run.Compile(s)
	if e != api.OK || at != 0 {
		t.Fatal(at, e)
	}
	r, e := run.File(b, api.Inputs{1: {4}}, wide)
	want, _, _ := run.Source(s, api.Inputs{1: {4}}, wide)
	if e != api.OK || !vm.Same(r, want) || r.Done != want.Done || r.End != api.EndError {
		t.Error(r, e)
	}
	again, _, _ := run.Compile(s)
	if !bytes.Equal(again, b) {
		t.Error("another file")
	}
	for _, b := range [][]byte{nil, b[:len(b)-1], append(slices.Clone(b), 0)} {
		if r, e := run.File(b, api.Inputs{}, wide); e != api.ErrFile || r.Done != 0 {
			t.Error(e)
		}
	}
	for _, s := range []string{"x = !", "local x: int = \"\"", "x()"} {
		_, at, e := run.Source(s, api.Inputs{}, wide)
		if b, at2, e2 := run.Compile(s); len(b) != 0 || at2 != at || e2 != e {
			t.Error(s, at2, e2)
		}
	}
	x, _ := binary.Decode(b)
	for n, w := range x.Protos[0].Words {
		if w&255 == api.IWrite {
			x.Protos[0].Words[n] = uint32(api.IBrf) | uint32(n+2)<<16
			x.Protos[0].Words[n+1] = uint32(api.IJoin)
			break
		}
	}
	bad, e := binary.Encode(x)
	if e != api.OK {
		t.Fatal(e)
	}
	if r, e := run.File(bad, api.Inputs{}, wide); e != api.ErrImage || r.Done != 0 {
		t.Error(e)
	}
}

// P26.7, P26.8 of some programs; package whole tries many.
func TestErased(t *testing.T) {
	for _, s := range []string{"local x: any = 1 local y: int = x + 1 write(0, y)", "local t: {a: int} = {a = 1} t.a = 2 return t.a", "error({})", "local x: any = {} local y: int = x"} {
		l, _, _ := parse.Program("channel 1 = 1 " + s)
		free, _ := erase.Labels(l)
		a, _, _ := run.Tree(l, api.Inputs{}, wide)
		b, _, _ := run.Bare(l, api.Inputs{}, wide)
		c, _, _ := run.Tree(free, api.Inputs{}, wide)
		if a.End != api.EndBlame && (a.End != b.End || a.Value != b.Value || !slices.Equal(a.Events, b.Events)) || b.End == api.EndBlame || a.End != c.End || a.Value != c.Value || !slices.Equal(a.Events, c.Events) {
			text, _ := show.Program(l)
			t.Error(text, a, b, c)
		}
	}
}
