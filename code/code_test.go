package code_test

import (
	"math"
	"math/rand"
	"slices"
	"testing"

	"ravelin/api"
	"ravelin/code"
	"ravelin/instr"
)

func ins(op int, f ...int) api.Ins {
	i := api.Ins{Op: op}
	for n, letter := range instr.Form(op) {
		switch letter {
		case 'A':
			i.A = f[n]
		case 'B':
			i.B = f[n]
		case 'C':
			i.C = f[n]
		case 'D':
			i.D = f[n]
		}
	}
	return i
}

// words encodes instructions.
func words(l ...api.Ins) []uint32 {
	var w []uint32
	for _, i := range l {
		x, e := instr.Encode(i)
		if e != api.OK {
			panic(i)
		}
		w = append(w, x)
	}
	return w
}

var (
	anyT  = api.Type{}
	shape = api.Type{Kind: api.TShape, Names: []string{"a"}, Args: []api.Type{{Kind: api.TInt}}}
	bad   = api.Type{Kind: api.TUnion}
)

// proto is a function with these words.
func proto(l ...api.Ins) api.Proto {
	return api.Proto{Types: []api.Type{anyT}, Regs: 4, Words: words(l...), Places: make([]int, len(l)), Consts: []api.Value{{Kind: api.Int, N: 5}, {Kind: api.Str, S: "a"}, {}, {Kind: api.Bool, N: 1}}}
}

// image is a program of one function, with a cast and a shape, beside one that takes something.
func image(l ...api.Ins) api.Image {
	inner := proto(ins(api.IReturn, 0))
	inner.Ups = []api.Up{{Local: true, N: 3}, {Local: true}}
	deep := proto(ins(api.IReturn, 0))
	deep.Ups = []api.Up{{N: 0}}
	return api.Image{Protos: []api.Proto{proto(l...), inner, deep}, Casts: []api.Blame{{To: shape, Side: 2}}, Shapes: []api.Type{shape}}
}

func check(t *testing.T, name string, x api.Image, fn, word int, e api.Errno) {
	t.Helper()
	if f, w, err := code.Check(x); f != fn || w != word || err != e {
		t.Errorf("%s: %d %d %d, not %d %d %d", name, f, w, err, fn, word, e)
	}
}

// P16.1: each instruction's fields that may be, and just beyond.
func TestFields(t *testing.T) {
	ret := ins(api.IReturn, 3)
	good := []api.Ins{
		ins(api.IConst, 3, 3), ins(api.IMove, 3, 3), ins(api.ICell, 3), ins(api.IGetc, 3, 3), ins(api.ISetc, 0, 3), ins(api.IAdd, 3, 3, 3), ins(api.IAddi, 3, 3, 3), ins(api.INeg, 3, 3), ins(api.IClosure, 3, 1), ins(api.ICall, 1, 2, 1), ins(api.ICall, 3, 0, 0),
		ins(api.IReturn, 3), ins(api.ITable, 3), ins(api.IStamp, 3, 0), ins(api.IGetf, 3, 3, 1), ins(api.IGets, 0, 3, 1), ins(api.ISetf, 3, 1, 3), ins(api.IGeti, 3, 3, 3), ins(api.ISeti, 3, 3, 3), ins(api.IRead, 3, 7), ins(api.IWrite, 3, 0), ins(api.IType, 3, 3), ins(api.IKey, 3, 3, 3),
		ins(api.IPcall, 3), ins(api.IResume, 3, 3), ins(api.IYield, 3), ins(api.IStatus, 3, 3), ins(api.ICast, 3, 0), ins(api.IBound, 3, 0), ins(api.IJump, 1), ins(api.IJump, 0),
	}
	for _, i := range good {
		check(t, instr.Show(i), image(i, ret), 0, 0, api.OK)
	}
	wrong := []api.Ins{
		ins(api.IConst, 4, 0), ins(api.IConst, 0, 4), ins(api.IConst, 0, -1), ins(api.IMove, 0, 4), ins(api.IMove, 4, 0), ins(api.IGetu, 0, 0), ins(api.ISetu, 0, 0), ins(api.IAdd, 0, 0, 4), ins(api.IAddi, 0, 0, 4), ins(api.IAdd, 0, 4, 0), ins(api.IClosure, 0, 3), ins(api.IClosure, 0, -1), ins(api.IClosure, 0, 2),
		ins(api.ICall, 1, 3, 0), ins(api.ICall, 1, 1, 2), ins(api.ICall, 4, 0, 0), ins(api.IStamp, 0, 1), ins(api.IStamp, 0, -1), ins(api.IGetf, 0, 0, 0), ins(api.IGetf, 0, 0, 2), ins(api.IGetf, 0, 0, 4), ins(api.IGets, 0, 0, 3), ins(api.ISetf, 0, 0, 0), ins(api.ISetf, 0, 1, 4), ins(api.ISetf, 4, 1, 0),
		ins(api.IRead, 0, 8), ins(api.IRead, 0, -1), ins(api.IWrite, 0, 8), ins(api.IResume, 0, 4), ins(api.ICast, 0, 1), ins(api.ICast, 0, -1), ins(api.IBound, 0, 1), ins(api.IBound, 0, 2), ins(api.IBound, 0, 4), ins(api.IBound, 4, 0), ins(api.IJump, 2), ins(api.IJump, -1), ins(api.IJoin, -1), ins(api.IJoin, 0),
	}
	for _, i := range wrong {
		check(t, instr.Show(i), image(i, ret), 0, 0, api.ErrCode)
	}
	x := image(ins(api.IClosure, 0, 1), ret)
	x.Protos[1] = proto(ins(api.IGetu, 3, 1), ins(api.ISetu, 1, 3), ins(api.IClosure, 0, 2), ret)
	x.Protos[1].Ups = []api.Up{{Local: true, N: 3}, {Local: true}}
	check(t, "ups", x, 0, 0, api.OK)
	x.Protos[1].Words[0] = words(ins(api.IGetu, 3, 2))[0]
	check(t, "getu", x, 1, 0, api.ErrCode)
	x.Protos[1].Words[0] = words(ins(api.ISetu, 2, 3))[0]
	check(t, "setu", x, 1, 0, api.ErrCode)
	x.Protos[1].Words[0] = words(ins(api.IGetu, 3, 1))[0]
	x.Protos[2].Ups[0].N = 2
	check(t, "closure of ups", x, 1, 2, api.ErrCode)
	x.Protos[1].Ups[0].N = 4
	check(t, "closure of registers", x, 0, 0, api.ErrCode)
}

// P16.1: joins, ends, jumps.
func TestJoins(t *testing.T) {
	ret := ins(api.IReturn, 0)
	for n, x := range []struct {
		l    []api.Ins
		word int
		e    api.Errno
	}{
		{[]api.Ins{ins(api.IBrf, 0, 2), ins(api.IJoin, 2), ret}, 0, api.OK}, {[]api.Ins{ins(api.IBrt, 0, 2), ins(api.IJoin, -1), ret}, 0, api.OK}, {[]api.Ins{ins(api.IBrf, 0, 2), ins(api.IJoin, 1), ret}, 0, api.OK}, {[]api.Ins{ins(api.IBrf, 0, 2), ins(api.IJoin, 3), ret}, 1, api.ErrCode}, {[]api.Ins{ins(api.IBrf, 0, 2), ins(api.IJoin, -2), ret}, 1, api.ErrCode},
		{[]api.Ins{ins(api.IBrf, 0, 0)}, 0, api.ErrCode}, {[]api.Ins{ins(api.IBrf, 0, 0), ret}, 1, api.ErrCode}, {[]api.Ins{ret, ins(api.IJoin, 0), ret}, 1, api.ErrCode}, {[]api.Ins{ins(api.IBrf, 0, 1), ins(api.IJoin, 0), ret}, 0, api.ErrCode}, {[]api.Ins{ins(api.IBrf, 0, 3), ins(api.IJoin, 0), ret}, 0, api.ErrCode},
		{[]api.Ins{ins(api.IJump, 2), ins(api.IBrf, 0, 0), ins(api.IJoin, 0), ret}, 0, api.ErrCode}, {[]api.Ins{ins(api.IBrf, 0, 0), ins(api.IJoin, 0)}, 1, api.ErrCode}, {[]api.Ins{ins(api.IMove, 0, 0)}, 0, api.ErrCode}, {[]api.Ins{ins(api.IMove, 0, 0), ins(api.IJump, 0)}, 0, api.OK}, {[]api.Ins{ins(api.IBrf, 0, 2), ins(api.IJoin, 2), ins(api.IJoin, 2), ret}, 0, api.ErrCode},
	} {
		check(t, "join "+code.Show(proto(x.l...)), image(x.l...), 0, x.word, x.e)
		_ = n
	}
	x := image(ins(api.IJump, 1), ret, ret)
	x.Protos[0].Words[1] = 0xFFFFFF00 | api.IJoin
	check(t, "a join by its lowest byte", x, 0, 0, api.ErrCode)
	x = image(ins(api.IConst, 0, 0), ret)
	x.Protos[0].Words[0] = 0
	check(t, "no word", x, 0, 0, api.ErrCode)
}

// P16.1: all but the words.
func TestWhole(t *testing.T) {
	ret := ins(api.IReturn, 0)
	check(t, "none", api.Image{}, 0, 0, api.ErrCode)
	check(t, "example", image(ins(api.IConst, 0, 0), ret), 0, 0, api.OK)
	for name, f := range map[string]func(x *api.Image){
		"parameters": func(x *api.Image) { x.Protos[0].Types = []api.Type{anyT, anyT} }, "ups": func(x *api.Image) { x.Protos[0].Ups = []api.Up{{Local: true}} },
		"cast": func(x *api.Image) { x.Casts[0].To = bad }, "side": func(x *api.Image) { x.Casts[0].Side = 0 }, "side 3": func(x *api.Image) { x.Casts[0].Side = 3 }, "at": func(x *api.Image) { x.Casts[0].At = -1 },
		"shape": func(x *api.Image) { x.Shapes[0] = anyT }, "bad shape": func(x *api.Image) { x.Shapes[0] = api.Type{Kind: api.TShape, Names: []string{"a"}} }, "casts": func(x *api.Image) { x.Casts = slices.Repeat(x.Casts, 30001) }, "shapes": func(x *api.Image) { x.Shapes = slices.Repeat(x.Shapes, 30001) },
		"protos": func(x *api.Image) { x.Protos = slices.Repeat(x.Protos[:1], 2001) },
	} {
		x := image(ret)
		f(&x)
		check(t, name, x, 0, 0, api.ErrCode)
	}
	x := image(ret)
	x.Casts, x.Shapes = slices.Repeat(x.Casts, 30000), slices.Repeat(x.Shapes, 30000)
	check(t, "many", x, 0, 0, api.OK)
	x.Protos = slices.Repeat(x.Protos[:1], 2000)
	check(t, "many functions", x, 0, 0, api.OK)
	for name, f := range map[string]func(p *api.Proto){
		"no types": func(p *api.Proto) { p.Types = nil }, "bad type": func(p *api.Proto) { p.Types = []api.Type{anyT, bad} }, "many parameters": func(p *api.Proto) { p.Types = make([]api.Type, 6) }, "regs": func(p *api.Proto) { p.Regs = 251 }, "no regs": func(p *api.Proto) { p.Regs = 0 }, "regs below": func(p *api.Proto) { p.Regs = math.MinInt },
		"no words": func(p *api.Proto) { p.Words, p.Places = nil, nil }, "words": func(p *api.Proto) { p.Words, p.Places = slices.Repeat(p.Words, 30001), make([]int, 30001) }, "places": func(p *api.Proto) { p.Places = make([]int, 2) }, "place": func(p *api.Proto) { p.Places[0] = -1 },
		"consts": func(p *api.Proto) { p.Consts = make([]api.Value, 30001) }, "const": func(p *api.Proto) { p.Consts[0].Kind = 9 }, "const's label": func(p *api.Proto) { p.Consts[0].Label = 1 }, "const's kind": func(p *api.Proto) { p.Consts[0].Kind = api.Table }, "no const": func(p *api.Proto) { p.Consts[2].N = 1 },
		"ups": func(p *api.Proto) { p.Ups = make([]api.Up, 201) }, "up": func(p *api.Proto) { p.Ups[0].N = -1 },
	} {
		x := image(ret)
		f(&x.Protos[1])
		check(t, name, x, 1, 0, api.ErrCode)
	}
	for name, f := range map[string]func(p *api.Proto){
		"parameters": func(p *api.Proto) { p.Types = make([]api.Type, 5) }, "regs": func(p *api.Proto) { p.Regs = 250 }, "words": func(p *api.Proto) { p.Words, p.Places = slices.Repeat(p.Words, 30000), make([]int, 30000) }, "place": func(p *api.Proto) { p.Places[0] = math.MaxInt },
		"consts": func(p *api.Proto) { p.Consts = make([]api.Value, 30000) }, "ups": func(p *api.Proto) { p.Ups = make([]api.Up, 200) }, "up": func(p *api.Proto) { p.Ups[0].N = math.MaxInt },
	} {
		x := image(ret)
		f(&x.Protos[1])
		check(t, name, x, 0, 0, api.OK)
	}
	x = image(ins(api.IMove, 0, 0), ins(api.IMove, 0, 9), ret)
	x.Protos[1].Types = nil
	check(t, "in order", x, 0, 1, api.ErrCode)
}

// P16.2
func TestSame(t *testing.T) {
	make := func() api.Image {
		x := image(ins(api.IConst, 0, 0), ins(api.IReturn, 0))
		x.Masks[3] = 7
		return x
	}
	if !code.Same(make(), make()) || !code.Same(api.Image{}, api.Image{Protos: []api.Proto{}}) {
		t.Error("alike")
	}
	for n, f := range []func(x *api.Image){
		func(x *api.Image) { x.Masks[0] = 1 }, func(x *api.Image) { x.Protos = x.Protos[:2] }, func(x *api.Image) { x.Casts = nil }, func(x *api.Image) { x.Casts[0].Side = 1 }, func(x *api.Image) { x.Casts[0].At = 1 }, func(x *api.Image) { x.Casts[0].To = anyT }, func(x *api.Image) { x.Shapes[0] = bad },
		func(x *api.Image) { x.Protos[0].Regs++ }, func(x *api.Image) { x.Protos[0].Types = nil }, func(x *api.Image) { x.Protos[0].Words[0]++ }, func(x *api.Image) { x.Protos[0].Consts[0].Label = 1 }, func(x *api.Image) { x.Protos[0].Consts[1].S = "b" }, func(x *api.Image) { x.Protos[1].Ups[0].Local = false }, func(x *api.Image) { x.Protos[0].Places[1] = 1 },
		func(x *api.Image) { x.Casts[0].To = api.Type{Kind: api.TShape, Names: []string{"b"}, Args: shape.Args} },
	} {
		x := make()
		f(&x)
		if code.Same(x, make()) || code.Same(make(), x) || !code.Same(x, x) {
			t.Error(n)
		}
	}
}

// nested is a type in a type, so many of them; each holds the one within so often, the deepest has this kind.
func nested(many, often, kind int) api.Type {
	t := api.Type{Kind: kind}
	for range many {
		t = api.Type{Kind: api.TFunc, Args: slices.Repeat([]api.Type{t}, often)}
	}
	return t
}

// P16.2, P1: types that are large, deep, that hold one list again and again, or themselves, wherever an image has types.
func TestSameTypes(t *testing.T) {
	places := []func(u api.Type) api.Image{
		func(u api.Type) api.Image { return api.Image{Shapes: []api.Type{{}, u}} },
		func(u api.Type) api.Image { return api.Image{Casts: []api.Blame{{}, {To: u}}} },
		func(u api.Type) api.Image { return api.Image{Protos: []api.Proto{{}, {Types: []api.Type{{}, u}}}} },
	}
	loop := func(kind int) api.Type {
		l := []api.Type{{Kind: api.TFunc}, {Kind: kind}}
		l[0].Args = l
		return l[0]
	}
	for name, f := range map[string]func(kind int) api.Type{
		"wide": func(kind int) api.Type {
			return api.Type{Args: append(make([]api.Type, 1<<22), api.Type{Kind: kind})}
		},
		"deep": func(kind int) api.Type { return nested(1<<17, 1, kind) }, "one list often": func(kind int) api.Type { return nested(300, 2, kind) }, "itself": loop,
	} {
		a, b, c := f(1), f(1), f(2)
		for n, place := range places {
			if !code.Same(place(a), place(a)) || !code.Same(place(a), place(b)) || code.Same(place(a), place(c)) || code.Same(place(c), place(a)) {
				t.Error(name, n)
			}
		}
	}
}

// P16.3
func TestShow(t *testing.T) {
	p := proto(ins(api.IConst, 0, 0), ins(api.IReturn, 0))
	p.Words = append(p.Words, 0)
	if got := code.Show(p); got != "0: const 0 0\n1: return 0\n2: ?\n" {
		t.Error(got)
	}
	if got := code.Show(api.Proto{}); got != "" {
		t.Error(got)
	}
}

// P1: any words end without a panic.
func TestAnyWords(t *testing.T) {
	r := rand.New(rand.NewSource(16))
	for range 20000 {
		x := image(ins(api.IReturn, 0))
		p := &x.Protos[0]
		p.Words = nil
		for range 1 + r.Intn(5) {
			p.Words = append(p.Words, r.Uint32()&0x03030300|uint32(r.Intn(64)))
		}
		p.Places = make([]int, len(p.Words))
		if fn, word, _ := code.Check(x); fn != 0 || word >= len(p.Words) {
			t.Error(code.Show(*p), fn, word)
		}
	}
}
