package engine_test

import (
	"bytes"
	"math"
	"math/rand"
	"slices"
	"strconv"
	"strings"
	"testing"

	"ravelin/api"
	"ravelin/binary"
	"ravelin/engine"
	"ravelin/run"
	"ravelin/vm"
)

var wide = api.Limits{Fuel: 1000, Frames: 10, Cells: 100, Bytes: 100}

// P28.1
func TestNone(t *testing.T) {
	good, _, _ := run.Compile("write(0, 1)")
	var none *engine.Engine
	for _, e := range []*engine.Engine{none, {}} {
		at, a := e.Add("a", "write(0, 1)")
		f, b := e.File("a")
		how, r, c := e.Run("a", api.Inputs{}, wide)
		if at != 0 || a != api.ErrNone || e.Load("a", good) != api.ErrNone || len(f) != 0 || b != api.ErrNone || how != "" || !vm.Same(r, api.Result{}) || c != api.ErrNone || len(e.Names()) != 0 {
			t.Error(a, b, c)
		}
	}
	if len(engine.New().Names()) != 0 {
		t.Error("new")
	}
}

// P28.2 to P28.5
func TestPrograms(t *testing.T) {
	e := engine.New()
	if at, err := e.Add("a", "write(0, 1)"); at != 0 || err != api.OK {
		t.Error(at, err)
	}
	if how, r, err := e.Run("a", api.Inputs{}, wide); how != "done" || err != api.OK || !slices.Equal(r.Events, []api.Event{{Kind: api.Int, N: 1}}) {
		t.Error(how, r, err)
	}
	if at, err := e.Add("a", "write(0, ! )"); at != 9 || err != api.ErrToken {
		t.Error(at, err)
	}
	if at, err := e.Add("b", "x()"); at != 0 || err != api.ErrScope || len(e.Names()) != 1 {
		t.Error(at, err)
	}
	if how, r, _ := e.Run("a", api.Inputs{}, wide); how != "done" || len(r.Events) != 1 {
		t.Error("what was refused has changed nothing")
	}
	good, _, _ := run.Compile("error(5)")
	if err := e.Load("", good); err != api.OK {
		t.Error(err)
	}
	if how, r, _ := e.Run("", api.Inputs{}, wide); how != "error" || r.Value.N != 5 {
		t.Error(how, r)
	}
	b, err := e.File("")
	if err != api.OK || !bytes.Equal(b, good) {
		t.Error(err)
	}
	b[0], good[1] = 0, 0
	if b, _ := e.File(""); b[0] != 82 || b[1] != 76 {
		t.Error("files are shared")
	}
	if err := e.Load("c", b); err != api.ErrFile {
		t.Error(err)
	}
	if err := e.Load("c", unverified(t)); err != api.ErrImage || len(e.Names()) != 2 {
		t.Error(err)
	}
	if _, err := e.File("c"); err != api.ErrNone {
		t.Error(err)
	}
	if how, r, err := e.Run("c", api.Inputs{}, wide); how != "" || err != api.ErrNone || r.Done != 0 {
		t.Error(err)
	}
	e.Add("b", "return 1")
	e.Add("a", "return 2")
	if _, r, _ := e.Run("a", api.Inputs{}, wide); r.Value.N != 2 {
		t.Error(r)
	}
	names := e.Names()
	if !slices.Equal(names, []string{"a", "", "b"}) {
		t.Error(names)
	}
	names[0] = "x"
	if e.Names()[0] != "a" {
		t.Error("names are shared")
	}
}

// unverified is a file whose join isn't where ways meet.
func unverified(t *testing.T) []byte {
	b, _, _ := run.Compile("if true then write(0, 1) end")
	x, _ := binary.Decode(b)
	p := &x.Protos[0]
	for n, w := range p.Words {
		if w&255 == api.IJoin {
			p.Words[n] = uint32(api.IJoin)
		}
	}
	b, e := binary.Encode(x)
	if e != api.OK {
		t.Fatal(e)
	}
	return b
}

// large is a text whose file has more than 10,000,000 bytes: it casts often to a large type.
func large() string {
	var b strings.Builder
	b.WriteString("local x = read(1) write(0, x) local f: any = nil if f then local t: {")
	for n := range 2000 {
		b.WriteString("a" + strconv.Itoa(n) + ":int,")
	}
	return strings.TrimSuffix(b.String(), ",") + "} = f" + strings.Repeat(" t=f", 700) + " end"
}

// P28.2 to P28.4: a text that was added is run however long its file is; one that is loaded may not be as long.
func TestLarge(t *testing.T) {
	s := large()
	file, at, err := run.Compile(s)
	if at != 0 || err != api.OK || len(file) <= 10000000 {
		t.Fatal(at, err, len(file))
	}
	e := engine.New()
	if at, err := e.Add("a", s); at != 0 || err != api.OK {
		t.Fatal(at, err)
	}
	for _, x := range []struct {
		lim  api.Limits
		want string
	}{{wide, "done"}, {wide, "done"}, {api.Limits{Fuel: 2}, "fuel"}} {
		in := api.Inputs{1: {4}}
		want, _, _ := run.Source(s, in, x.lim)
		if how, r, err := e.Run("a", in, x.lim); how != x.want || err != api.OK || !vm.Same(r, want) || r.Done != want.Done || r.Slips != 0 {
			t.Error(how, r, err)
		}
	}
	b, err := e.File("a")
	if err != api.OK || !bytes.Equal(b, file) {
		t.Error(len(b), err)
	}
	if err := e.Load("b", file); err != api.ErrFile || len(e.Names()) != 1 {
		t.Error(err)
	}
}

// P28.2: a name's program is what came last, be it a text or a file.
func TestAnew(t *testing.T) {
	e := engine.New()
	loaded, _, _ := run.Compile("return 2")
	for n, want := range []int64{1, 2, 3, 2} {
		err := api.OK
		if want == 2 {
			err = e.Load("a", loaded)
		} else {
			_, err = e.Add("a", "return "+strconv.Itoa(int(want)))
		}
		how, r, err2 := e.Run("a", api.Inputs{}, wide)
		if err != api.OK || err2 != api.OK || how != "done" || r.Value.N != want {
			t.Error(n, how, r.Value, err, err2)
		}
		own, _, _ := run.Compile("return " + strconv.Itoa(int(want)))
		if b, err := e.File("a"); err != api.OK || !bytes.Equal(b, own) {
			t.Error(n, err)
		}
	}
	if !slices.Equal(e.Names(), []string{"a"}) {
		t.Error(e.Names())
	}
}

// P28.2: a hundred programs, and one more.
func TestHundred(t *testing.T) {
	e := engine.New()
	for n := range 100 {
		if _, err := e.Add(strconv.Itoa(n), "return 1"); err != api.OK {
			t.Fatal(n, err)
		}
	}
	good, _ := e.File("0")
	if at, err := e.Add("x", "return 1"); at != 0 || err != api.ErrLong || e.Load("x", good) != api.ErrLong || len(e.Names()) != 100 {
		t.Error(at, err)
	}
	if at, err := e.Add("x", "return !"); at != 7 || err != api.ErrToken || e.Load("x", nil) != api.ErrFile || e.Load("x", unverified(t)) != api.ErrImage {
		t.Error(at, err)
	}
	if _, err := e.Add("99", "return 2"); err != api.OK || e.Load("98", good) != api.OK {
		t.Error(err)
	}
	if _, r, _ := e.Run("99", api.Inputs{}, wide); r.Value.N != 2 {
		t.Error(r)
	}
}

// P28.6
func TestOutcome(t *testing.T) {
	for n, want := range []string{"done", "error", "blame", "stop", "fuel", "frames", "cells", "bytes"} {
		if got := engine.Outcome(api.Result{End: n}); got != want {
			t.Error(n, got)
		}
	}
	for _, n := range []int{-1, 8, math.MaxInt, math.MinInt} {
		if got := engine.Outcome(api.Result{End: n}); got != "?" {
			t.Error(n, got)
		}
	}
}

// P28.7: files whose bytes were changed.
func TestAnyBytes(t *testing.T) {
	good, _, _ := run.Compile("channel 1 = 1 local t = {a = 1} local i = 0 while i < 3 do i = i + 1 t.a = t.a + i write(0, t.a) end local f: any = function(x: int): int return x end local g: (int) -> any = f if read(1) then write(1, g(4)) end pcall(function() yield(1) end)")
	r := rand.New(rand.NewSource(28))
	e := engine.New()
	ran := 0
	for range 30000 {
		b := slices.Clone(good)
		for range 1 + r.Intn(3) {
			b[r.Intn(len(b))] = byte(r.Intn(256) >> r.Intn(8))
		}
		if e.Load("x", b) != api.OK {
			continue
		}
		lim := api.Limits{Fuel: r.Intn(200), Frames: r.Intn(9), Cells: r.Intn(30), Bytes: r.Intn(30)}
		how, res, err := e.Run("x", api.Inputs{1: {1, 2}}, lim)
		if err != api.OK || how == "?" || res.Done > lim.Fuel {
			t.Fatal(how, res, err)
		}
		ran++
	}
	if ran < 500 {
		t.Error(ran)
	}
}
