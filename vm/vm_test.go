package vm_test

import (
	"strconv"
	"testing"

	"ravelin/api"
	"ravelin/check"
	"ravelin/instr"
	"ravelin/lower"
	"ravelin/parse"
	"ravelin/value"
	"ravelin/vm"
)

// wide are limits that no test program meets.
var wide = api.Limits{Fuel: 100000, Frames: 1000, Cells: 100000, Bytes: 100000}

// image compiles a text that is taken.
func image(t *testing.T, s string) api.Image {
	t.Helper()
	l, e, at, err := check.Source(s)
	if err != api.OK {
		t.Fatalf("%q: %d %d", s, at, err)
	}
	x, at, err := lower.Program(l, e)
	if err != api.OK {
		t.Fatalf("%q: %d %d", s, at, err)
	}
	return x
}

// bare compiles a text without its types.
func bare(t *testing.T, s string) api.Image {
	t.Helper()
	l, at, err := parse.Program(s)
	if err != api.OK {
		t.Fatalf("%q: %d %d", s, at, err)
	}
	e, at, err := check.Bare(l)
	if err != api.OK {
		t.Fatalf("%q: %d %d", s, at, err)
	}
	x, at, err := lower.Program(l, e)
	if err != api.OK {
		t.Fatalf("%q: %d %d", s, at, err)
	}
	return x
}

// brief writes a result: how it ended, with what or where, and what was put out.
func brief(r api.Result) string {
	s := []string{"done", "error", "blame", "stop", "fuel", "frames", "cells", "bytes"}[r.End]
	if r.End <= api.EndError {
		s += " " + value.Show(r.Value)
	}
	if r.End == api.EndBlame || r.End == api.EndStop {
		s += " " + strconv.Itoa(r.At)
	}
	if r.End == api.EndBlame {
		s += " " + strconv.Itoa(r.Side)
	}
	for _, e := range r.Events {
		s += "; " + strconv.Itoa(e.Channel) + ":" + value.Show(api.Value{Kind: e.Kind, N: e.N, S: e.S})
	}
	return s
}

func run(t *testing.T, x api.Image, in api.Inputs, lim api.Limits) api.Result {
	t.Helper()
	r, e := vm.Run(x, in, lim)
	if e != api.OK {
		t.Fatal(e)
	}
	if r.Done > max(lim.Fuel, 0) {
		t.Error(r.Done)
	}
	return r
}

// expect runs texts that are taken with 5, 6 on channel 0, and 1, 0 on channel 1.
func expect(t *testing.T, m map[string]string) {
	t.Helper()
	for s, want := range m {
		r := run(t, image(t, s), api.Inputs{{5, 6}, {1, 0}}, wide)
		if got := brief(r); got != want || r.Slips != 0 {
			t.Errorf("%q: %s, not %s (%d slips)", s, got, want, r.Slips)
		}
	}
}

// P24.1: expressions.
func TestExpressions(t *testing.T) {
	expect(t, map[string]string{
		"write(0, 1 + 2 * 3)": "done nil; 0:7", "return 7 // 2 - 7 % 4": "done 0", "return \"a\" .. \"b\"": "done ab", "return 1 < 2": "done true", "return 2 > 1": "done true", "return 2 <= 1": "done false", "return 1 >= 1": "done true", "return \"a\" < \"b\"": "done true",
		"return 1 == 1": "done true", "return 1 ~= 1": "done false", "return {} == {}": "done false", "local t = {} return t == t": "done true", "return nil == false": "done false", "return -5": "done -5", "return not nil": "done true", "return #\"abc\"": "done 3", "return #{1, 2}": "done 2",
		"return 1 and 2": "done 2", "return nil and 2": "done nil", "return false or 2": "done 2", "return 1 or 2": "done 1", "local x = read(0) return x and x + 1": "done 6", "return {a = 1}.a": "done 1", "return {1, 2}[2]": "done 2", "local t: table = {} return t.b": "done nil",
		"local t = {1, a = 2, 3} return t[2]": "done 3", "local t = {1, a = 2, 3} return key(t, 2)": "done a", "local t = {1} return key(t, 2)": "done nil", "local k: any = \"x\" return key({}, k)": "blame 34 1", "return type({})": "done table",
		"return type(function() end)": "done function", "return type(create(function(x) end))": "done thread", "return read(0)": "done 5", "read(0) read(0) return read(0)": "done nil", "return write(0, 1)": "done nil; 0:1",
		"return 1 // 0": "error divide", "return 1 % 0": "error divide", "local x: any = {} return x + 1": "error arith", "local x: any = 1 return x .. \"\"": "error concat", "local x: any = 1 return x < \"\"": "error compare", "local x: any return -x": "error arith", "local x: any return #x": "error length",
		"local x: any return x.a": "error index", "local x: any return x[1]": "error index", "local x: any x.a = 1": "error index", "local t = {} t[nil] = 1": "error key", "local x: any x()": "error call", "error(5)": "error 5", "error({})": "error table",
		"return 9223372036854775807 + 1": "done -9223372036854775808",
	})
}

// P24.1: statements, functions, cells.
func TestStatements(t *testing.T) {
	expect(t, map[string]string{
		"local x = 1 x = x + 1 return x": "done 2", "local x return x": "done nil", "if 1 then write(0, 1) else write(0, 2) end": "done nil; 0:1", "if nil then write(0, 1) else write(0, 2) end": "done nil; 0:2", "if false then elseif 1 then write(0, 3) end": "done nil; 0:3",
		"local i = 0 while i < 3 do write(0, i) i = i + 1 end": "done nil; 0:0; 0:1; 0:2", "local i = 0 while true do i = i + 1 if i == 3 then break end write(0, i) end return i": "done 3; 0:1; 0:2", "while true do while true do break end break end return 1": "done 1",
		"function f(a: int, b: int): int return a - b end return f(5, 3)": "done 2", "function fac(n: int): int if n < 2 then return 1 end return n * fac(n - 1) end return fac(9)": "done 362880",
		"function fac(n: int): int if n < 2 then return 1 else return n * fac(n - 1) end end return fac(10)": "done 3628800", "local f = function() end return f()": "done nil", "local n = 0 function up() n = n + 1 return n end up() up() return n": "done 2",
		"function make() local n = 0 return function() n = n + 1 return n end end local a = make() local b = make() a() a() b() write(0, a()) write(0, b())":                  "done nil; 0:3; 0:2",
		"local fs = {} local i = 0 while i < 3 do local j = i fs[i] = function() j = j + 10 return j end i = i + 1 end write(0, fs[0]()) write(0, fs[1]()) write(0, fs[0]())": "done nil; 0:10; 0:11; 0:20",
		"local t = {a = {b = 1}} t.a.b = 2 return t.a.b": "done 2", "local x = 1 if true then local x = 2 x = 3 end return x": "done 1", "return": "done nil", "function f(a) return a end local g: any = f return g(1, 2, 3)": "done 1", "function f(a, b) return b end local g: any = f return g(1)": "done nil",
		"function f() local a = 1 return function() local b = 2 return function() a = a + b return a end end end return f()()()": "done 3",
	})
}

// P24.1: protected calls.
func TestPcall(t *testing.T) {
	expect(t, map[string]string{
		"local r = pcall(function() return 5 end) write(0, r.ok) write(0, r.value)": "done nil; 0:true; 0:5", "local r = pcall(function() error(\"x\") end) write(0, r.ok) write(0, r.value)": "done nil; 0:false; 0:x", "local r = pcall(function() return 1 // 0 end) return r.value": "done divide",
		"local r = pcall(function() local r = pcall(function() error(1) end) error(r.value) end) return r.value": "done 1", "local r = pcall(function() function f() error(2) end f() end) return r.value": "done 2", "local r = pcall(function() return 1 end) r.ok = false r.value = \"\" return #r": "done 2",
		"local r = pcall(function() return 1 end) local x: any = r x.ok = 1": "blame 63 1", "local r = pcall(function() local x: any = 1 local y: string = x end) return 1": "blame 62 1",
	})
	r := run(t, bare(t, "local r = pcall(1) return r.value"), api.Inputs{}, wide)
	if brief(r) != "done call" {
		t.Error(brief(r))
	}
}

// P24.1: threads.
func TestThreads(t *testing.T) {
	expect(t, map[string]string{
		"local c = create(function(x) local y = yield(x + 1) return y + 10 end) write(0, status(c)) local a = resume(c, 1) write(0, a.value) write(0, status(c)) local b = resume(c, 5) write(0, b.value) write(0, status(c)) local d = pcall(function() return resume(c, 1) end) write(0, d.value)": "done nil; 0:suspended; 0:2; 0:suspended; 0:15; 0:dead; 0:resume",
		"local c = create(function(x) error(x) end) local r = resume(c, 3) write(0, r.ok) write(0, r.value) write(0, status(c))":                                                                                                                                                                     "done nil; 0:false; 0:3; 0:dead", "yield(1)": "error yield", "local c: any = 1 return status(c)": "blame 31 1",
		"local c: any local d = create(function(x) write(0, status(c)) local r = pcall(function() return resume(c, 1) end) write(0, r.value) end) c = create(function(x) write(0, status(c)) resume(d, 1) end) resume(c, 1) write(0, status(c))": "done nil; 0:running; 0:normal; 0:resume; 0:dead",
		"local c = create(function(x) local r = pcall(function() return yield(1) end) return r.value end) resume(c, 0) return resume(c, 7).value":                                                                                                "done 7", "local c = create(function(x: int) end) local r = resume(c, \"s\")": "blame 17 1", "local c = create(function(x) function f() yield(1) yield(2) end f() return 3 end) local i = 0 while i < 4 do i = i + 1 if status(c) ~= \"dead\" then write(0, resume(c, i).value) end end": "done nil; 0:1; 0:2; 0:3",
	})
}

// 24.2, 24.3: casts, wrappers, loose calls.
func TestBlame(t *testing.T) {
	expect(t, map[string]string{
		"local f: any = function(x: int): int return x end f(\"s\")": "blame 51 1", "local f: any = function(x: int): int return x end return f(4)": "done 4", "local t: any = \"s\" local n: int = t": "blame 34 1", "local f: any = function(x: int): int return x end f()": "blame 51 1",
		"local f: (any) -> any = function(x: int): int return x end return f(1)": "done 1", "local f: (any) -> any = function(x: int): int return x end return f(\"s\")": "blame 24 2", "local f: any = function(x) return x end local g: (int) -> int = f return g(1)": "done 1",
		"local f: any = function(x) return \"s\" end local g: (int) -> int = f return g(1)": "blame 66 1", "local f: any = function(x, y: int) return x end local g: (int) -> any = f return g(1)": "blame 72 1", "local f: any = 1 local g: () -> any = f": "blame 38 1",
		"local s: {a: int} = {} ": "blame 20 1", "local x: any = {a = 1} local s: {a: int} = x x.a = \"s\"": "blame 49 1", "local x: any = {a = \"s\"} local s: {a: int} = x": "blame 45 1", "local f: any = function(g: (any) -> int): int return g(1) end return f(function(x) return \"s\" end)": "blame 70 1",
		"local f = function() end local g: any = f local h: () -> any = g return h == f": "done true", "local f: any = function(x: {a: int}): int return x.a end return f({a = 1})": "done 1",
	})
}

// 24.1: what is stopped, and what isn't.
func TestStops(t *testing.T) {
	expect(t, map[string]string{
		"channel 1 = 1 local x = read(1) if x then write(0, 1) end": "stop 42", "channel 1 = 1 local x = read(1) write(0, x)": "stop 32", "channel 1 = 1 local x = read(1) write(1, x) write(0, 2)": "done nil; 1:1; 0:2", "channel 1 = 1 if read(1) then return end write(0, 2)": "done nil", "channel 1 = 1 read(1) if read(1) == 1 then return end write(0, 2)": "stop 54",
		"channel 1 = 1 local y = 0 if read(1) then y = 1 end": "stop 44", "channel 1 = 1 local y = read(1) if read(1) then y = 1 end write(1, y)": "done nil; 1:1", "channel 1 = 1 if read(1) then local z = 1 z = 2 end write(0, 1)": "done nil; 0:1", "channel 1 = 1 local x: any @ 0 = read(1)": "stop 27", "channel 1 = 1 local x: any @ 1 = read(1) return 1": "done 1",
		"channel 1 = 1 function f(a: any @ 0) end f(read(1))": "stop 32", "channel 1 = 1 local t = {} t.a = read(1) write(0, #t) write(0, t.a)": "stop 54; 0:1", "channel 1 = 1 local t = {} if read(1) then t.a = 1 end": "stop 47", "channel 1 = 1 local t = {} t.a = read(1) if read(1) then t.a = 2 end return 3": "done 3", "channel 1 = 1 local t = {} t[read(1)] = 1": "stop 38",
		"channel 1 = 1 local x = read(1) and 5 write(1, x) write(0, 1) write(0, x)": "stop 62; 1:5; 0:1", "channel 1 = 1 local r = pcall(function() if read(1) then error(1) end end) write(0, 1)": "stop 24", "channel 1 = 1 local f = function() return 1 end if read(1) then f = function() return 2 end end": "stop 66",
		"channel 1 = 1 channel 2 = 3 local x = read(1) if x then write(2, 1) end write(0, 2)": "done nil; 2:1; 0:2", "channel 1 = 1 local n = 0 function f() n = 1 end if read(1) then f() end": "stop 41", "channel 1 = 1 if read(1) then read(0) end": "stop 30", "channel 1 = 1 while true do if read(1) == 1 then break end end write(0, 1)": "done nil; 0:1",
		"channel 1 = 1 local c = create(function(x) yield(x) end) if read(1) then resume(c, 1) end": "stop 73", "channel 1 = 1 local x = read(1) local r = resume(create(function(y) return y end), x) write(1, r.value) write(0, r.ok) write(0, r.value)": "stop 119; 1:1; 0:true", "channel 1 = 1 local c = create(function(x) if read(1) then yield(1) end end) resume(c, 1)": "stop 59",
	})
}

// P24.1: what is no image.
func TestImage(t *testing.T) {
	if r, e := vm.Run(api.Image{}, api.Inputs{}, wide); e != api.ErrImage || !vm.Same(r, api.Result{}) || r.Done != 0 {
		t.Error(r, e)
	}
}

// P24.2
func TestSame(t *testing.T) {
	a := func() api.Result {
		return api.Result{End: 1, Value: api.Value{Kind: 2, N: 3, S: "x", Label: 4}, At: 5, Side: 1, Events: []api.Event{{Channel: 1}}, Places: [8]int{1}}
	}
	b := a()
	b.Done, b.Slips = 7, 8
	if !vm.Same(a(), b) || !vm.Same(api.Result{}, api.Result{Events: []api.Event{}}) {
		t.Error("alike")
	}
	for n, f := range []func(r *api.Result){
		func(r *api.Result) { r.End = 0 }, func(r *api.Result) { r.Value.Kind = 0 }, func(r *api.Result) { r.Value.N = 0 }, func(r *api.Result) { r.Value.S = "" }, func(r *api.Result) { r.Value.Label = 0 }, func(r *api.Result) { r.At = 0 }, func(r *api.Result) { r.Side = 0 }, func(r *api.Result) { r.Events[0].N = 1 }, func(r *api.Result) { r.Events = nil }, func(r *api.Result) { r.Places[7] = 1 },
	} {
		b := a()
		f(&b)
		if vm.Same(a(), b) {
			t.Error(n)
		}
	}
}

// 24.4: limits, each just met and not.
func TestLimits(t *testing.T) {
	for _, x := range []struct {
		s    string
		lim  api.Limits
		want string
	}{
		{"write(0, 1)", api.Limits{Fuel: 4}, "done nil; 0:1"}, {"write(0, 1)", api.Limits{Fuel: 3}, "fuel; 0:1"}, {"write(0, 1)", api.Limits{Fuel: 1}, "fuel"}, {"write(0, 1)", api.Limits{}, "fuel"}, {"write(0, 1)", api.Limits{Fuel: -5, Frames: -1, Cells: -1, Bytes: -1}, "fuel"},
		{"local f = function() write(0, 1) end f()", api.Limits{Fuel: 100, Cells: 9}, "frames"}, {"local f = function() write(0, 1) end f()", api.Limits{Fuel: 100, Cells: 9, Frames: 2}, "done nil; 0:1"}, {"local f = function() write(0, 1) end f()", api.Limits{Fuel: 100, Frames: 2}, "cells"}, {"function f() f() end f()", api.Limits{Fuel: 1000, Frames: 5, Cells: 10}, "frames"},
		{"local t = {1, 2}", api.Limits{Fuel: 100, Cells: 3}, "done nil"}, {"local t = {1, 2}", api.Limits{Fuel: 100, Cells: 2}, "cells"}, {"return \"ab\" .. \"c\" .. \"d\"", api.Limits{Fuel: 100, Bytes: 7}, "done abcd"}, {"return \"ab\" .. \"c\" .. \"d\"", api.Limits{Fuel: 100, Bytes: 6}, "bytes"}, {"return \"\" .. \"\"", api.Limits{Fuel: 100, Bytes: -3}, "done "},
		{"local c = create(function(x) end)", api.Limits{Fuel: 100, Cells: 2}, "done nil"}, {"local c = create(function(x) end)", api.Limits{Fuel: 100, Cells: 1}, "cells"}, {"local x = 1 local f = function() return x end", api.Limits{Fuel: 100, Cells: 3}, "done nil"}, {"local x = 1 local f = function() return x end", api.Limits{Fuel: 100, Cells: 2}, "cells"},
		{"resume(create(function(x) end), 1) return 1", api.Limits{Fuel: 100, Cells: 5, Frames: 2}, "done 1"}, {"resume(create(function(x) end), 1) return 1", api.Limits{Fuel: 100, Cells: 4, Frames: 2}, "cells"}, {"resume(create(function(x) end), 1) return 1", api.Limits{Fuel: 100, Cells: 5, Frames: 1}, "frames"}, {"local f: any = function() end local g: () -> any = f", api.Limits{Fuel: 100, Cells: 1}, "cells"},
		{"while true do write(0, 1) end", api.Limits{Fuel: 12}, "fuel; 0:1; 0:1"},
	} {
		if got := brief(run(t, image(t, x.s), api.Inputs{}, x.lim)); got != x.want {
			t.Errorf("%q %v: %s, not %s", x.s, x.lim, got, x.want)
		}
	}
}

// 24.4: words that lower.Program doesn't make.
func TestWords(t *testing.T) {
	run1 := func(masks [8]api.Label, consts []api.Value, l ...api.Ins) api.Result {
		t.Helper()
		p := api.Proto{Types: []api.Type{{}}, Regs: 8, Consts: consts}
		for n, i := range l {
			w, e := instr.Encode(i)
			if e != api.OK {
				t.Fatal(i)
			}
			p.Words, p.Places = append(p.Words, w), append(p.Places, 100+n)
		}
		return run(t, api.Image{Protos: []api.Proto{p}, Masks: masks}, api.Inputs{1: {1}}, wide)
	}
	consts := []api.Value{{Kind: api.Int, N: 5}, {Kind: api.Str, S: "a"}}
	in := func(op int, f ...int) api.Ins {
		i := api.Ins{Op: op}
		for n, letter := range instr.Form(op) {
			switch letter {
			case 'A':
				i.A = f[n]
			case 'B':
				i.B = f[n]
			case 'C':
				i.C = f[n]
			default:
				i.D = f[n]
			}
		}
		return i
	}
	ret := in(api.IReturn, 0)
	for n, x := range []struct {
		r     api.Result
		want  string
		slips int
	}{
		{run1([8]api.Label{}, consts, in(api.IConst, 1, 0), in(api.IConst, 2, 1), in(api.IAddi, 0, 1, 2), ret), "error arith", 1}, {run1([8]api.Label{}, consts, in(api.IConst, 1, 1), in(api.ILti, 0, 1, 1), ret), "done false", 1}, {run1([8]api.Label{}, consts, in(api.IConst, 1, 0), in(api.IMuli, 0, 1, 1), ret), "done 25", 0},
		{run1([8]api.Label{}, consts, in(api.ITable, 1), in(api.IConst, 2, 0), in(api.ISetf, 1, 1, 2), in(api.IGets, 0, 1, 1), ret), "done 5", 1}, {run1([8]api.Label{}, consts, in(api.IGets, 0, 1, 1), ret), "error index", 1},
		{run1([8]api.Label{}, consts, in(api.IConst, 0, 0), in(api.ICell, 0), ret), "done nil", 0}, {run1([8]api.Label{}, consts, in(api.IConst, 0, 0), in(api.IGetc, 0, 0), ret), "done nil", 0}, {run1([8]api.Label{}, consts, in(api.IConst, 0, 0), in(api.ISetc, 0, 0), ret), "done 5", 0}, {run1([8]api.Label{}, consts, in(api.IConst, 0, 0), in(api.ICell, 0), in(api.IGetc, 1, 0), in(api.IReturn, 1)), "done 5", 0},
		{run1([8]api.Label{}, consts, in(api.IConst, 0, 0), in(api.IInit, 1, 0), in(api.IReturn, 1)), "done 5", 0},
		{run1([8]api.Label{1: 1}, consts, in(api.IRead, 0, 1), in(api.IBrf, 0, 4), in(api.IJoin, 4), in(api.IConst, 1, 0), in(api.IWrite, 1, 0), ret), "stop 104", 0}, {run1([8]api.Label{1: 1}, consts, in(api.IRead, 0, 1), in(api.IBrf, 0, 4), in(api.IJoin, 4), in(api.IConst, 1, 0), in(api.IWrite, 2, 0), in(api.IWrite, 1, 1), in(api.IReturn, 2)), "done nil; 0:nil; 1:5", 0},
		{run1([8]api.Label{1: 1}, consts, in(api.IRead, 0, 1), in(api.IBrt, 0, 4), in(api.IJoin, 4), in(api.IConst, 1, 0), in(api.IWrite, 1, 0), ret), "stop 104", 0},
	} {
		if got := brief(x.r); got != x.want || x.r.Slips != x.slips {
			t.Error(n, got, x.r.Slips)
		}
	}
}
