package lower

import (
	"ravelin/api"
	"ravelin/flow"
	"ravelin/instr"
)

// constant is what of a constant tells it from others.
type constant struct {
	kind int
	n    int64
	s    string
}

// function is a function that is being compiled: count takes registers, or gives them back, and tells the first of these.
type function struct {
	p      *program
	up     *function
	index  int
	proto  api.Proto
	consts map[constant]int
	regs   map[int]int // a variable's register
	ups    map[int]int // a variable that is taken from outside
	breaks []int       // jumps behind the innermost loop
	node   int         // what is compiled just now
	count  func(int) int
}

func newFunction(p *program, up *function, index int) *function {
	f := &function{p: p, up: up, index: index, consts: map[constant]int{}, regs: map[int]int{}, ups: map[int]int{}}
	used := 0
	f.count = func(many int) int {
		first := used
		used += many
		if used > api.MaxRegs {
			panic(tooMany{f.node})
		}
		f.proto.Regs = max(f.proto.Regs, used)
		return min(first, used)
	}
	return f
}

// body compiles a function's block, and lays the function into the image.
func (f *function) body(block, n int) {
	f.block(block)
	f.node = n
	f.nothing()
	f.joins()
	f.p.x.Protos[f.index] = f.proto
}

// nothing answers nil.
func (f *function) nothing() {
	r := f.count(1)
	f.load(r, api.Value{})
	f.emit(api.Ins{Op: api.IReturn, A: r})
	f.count(-1)
}

// joins tells each branch where its ways meet.
func (f *function) joins() {
	posts := flow.Posts(f.proto)
	for n, w := range f.proto.Words {
		i, _ := instr.Decode(w)
		if i.Op == api.IBrf || i.Op == api.IBrt {
			f.proto.Words[n+1], _ = instr.Encode(api.Ins{Op: api.IJoin, D: posts[n]})
		}
	}
}

// emit lays a word, and tells its place.
func (f *function) emit(i api.Ins) int {
	at := len(f.proto.Words)
	w, e := instr.Encode(i)
	if at == api.MaxWords || e != api.OK {
		panic(tooMany{f.node})
	}
	f.proto.Words = append(f.proto.Words, w)
	f.proto.Places = append(f.proto.Places, f.p.l[f.node].At)
	return at
}

// here tells the place of the next word.
func (f *function) here() int { return len(f.proto.Words) }

// branch lays a branch with its join; where it leads is told later.
func (f *function) branch(op, register int) int {
	at := f.emit(api.Ins{Op: op, A: register})
	f.emit(api.Ins{Op: api.IJoin})
	return at
}

// jump lays a jump; where it leads is told later.
func (f *function) jump() int { return f.emit(api.Ins{Op: api.IJump}) }

// lead lets a jump or branch lead to the next word.
func (f *function) lead(at int) {
	i, _ := instr.Decode(f.proto.Words[at])
	i.D = f.here()
	w, e := instr.Encode(i)
	if e != api.OK {
		panic(tooMany{f.node})
	}
	f.proto.Words[at] = w
}

// constant tells the number of a constant.
func (f *function) constant(v api.Value) int {
	key := constant{v.Kind, v.N, v.S}
	at, is := f.consts[key]
	if !is {
		at = len(f.proto.Consts)
		if at == most {
			panic(tooMany{f.node})
		}
		f.consts[key] = at
		f.proto.Consts = append(f.proto.Consts, v)
	}
	return at
}

// load puts a constant into a register.
func (f *function) load(r int, v api.Value) {
	f.emit(api.Ins{Op: api.IConst, A: r, D: f.constant(v)})
}

// variable gives a node's variable the next register.
func (f *function) variable(n int) int {
	r := f.count(1)
	f.regs[f.p.e.Scope.Uses[n]] = r
	return r
}

// taken tells the number among what a function takes of a variable from outside.
func (f *function) taken(v int) int {
	at, is := f.ups[v]
	if is {
		return at
	}
	u := api.Up{Local: f.p.e.Scope.Vars[v].Fn == f.up.index}
	if u.Local {
		u.N = f.up.regs[v]
	} else {
		u.N = f.up.taken(v)
	}
	at = len(f.proto.Ups)
	if at == mostUps {
		panic(tooMany{f.node})
	}
	f.ups[v] = at
	f.proto.Ups = append(f.proto.Ups, u)
	return at
}
