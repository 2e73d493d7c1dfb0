package lower

import "ravelin/api"

// block compiles a block's statements; its variables' registers are given back at its end.
func (f *function) block(n int) {
	first := f.count(0)
	for _, k := range f.p.l[n].Kids {
		f.statement(k)
	}
	f.count(first - f.count(0))
}

// at says which node is compiled just now.
func (f *function) at(n int) { f.node = n }

// statement compiles a statement.
func (f *function) statement(n int) {
	node := f.p.l[n]
	kids := node.Kids
	f.at(n)
	switch node.Kind {
	case api.NLocal:
		r := f.count(1)
		f.maybe(kids[1], r)
		f.at(n)
		f.regs[f.p.e.Scope.Uses[n]] = r
		f.settle(n, kids[0])
	case api.NFunction:
		f.named(n)
	case api.NAssign:
		f.assign(n)
	case api.NDo:
		f.drop(kids[0])
	case api.NIf:
		f.choice(kids)
	case api.NWhile:
		f.loop(kids)
	case api.NReturn:
		r := f.count(1)
		f.maybe(kids[0], r)
		f.at(n)
		f.emit(api.Ins{Op: api.IReturn, A: r})
		f.count(-1)
	case api.NBreak:
		f.breaks = append(f.breaks, f.jump())
	}
}

// maybe puts an expression into a register, or nil if there is none.
func (f *function) maybe(n, r int) {
	if f.p.l[n].Kind == api.NNone {
		f.load(r, api.Value{})
		return
	}
	f.exp(n, r)
}

// settle looks at a new variable's bound, and gives it a cell if an inner function takes it.
func (f *function) settle(n, bound int) {
	v := f.p.e.Scope.Uses[n]
	r := f.regs[v]
	if f.p.l[bound].Kind == api.NTBound {
		f.at(bound)
		f.emit(api.Ins{Op: api.IBound, A: r, D: f.constant(api.Value{Kind: api.Int, N: mask(f.p.l[bound].Text)})})
	}
	f.at(n)
	if f.p.e.Scope.Vars[v].Taken {
		f.emit(api.Ins{Op: api.ICell, A: r})
	}
}

// named compiles a function statement: its variable is there ahead of the function.
func (f *function) named(n int) {
	kid := f.p.l[n].Kids[0]
	v := f.p.e.Scope.Uses[n]
	r := f.variable(n)
	if !f.p.e.Scope.Vars[v].Taken {
		f.exp(kid, r)
		return
	}
	f.load(r, api.Value{})
	f.emit(api.Ins{Op: api.ICell, A: r})
	t := f.count(1)
	f.exp(kid, t)
	f.at(n)
	f.emit(api.Ins{Op: api.ISetc, A: r, B: t})
	f.count(-1)
}

// assign compiles an assignment.
func (f *function) assign(n int) {
	place, value := f.p.l[n].Kids[0], f.p.l[n].Kids[1]
	node := f.p.l[place]
	first := f.count(0)
	switch node.Kind {
	case api.NName:
		r := f.operand(value)
		f.at(n)
		f.put(f.p.e.Scope.Uses[place], r)
	case api.NField:
		base := f.operand(node.Kids[0])
		if name, is := f.short(node.Text); is {
			r := f.operand(value)
			f.at(n)
			f.emit(api.Ins{Op: api.ISetf, A: base, B: name, C: r})
			break
		}
		key := f.count(1)
		f.load(key, api.Value{Kind: api.Str, S: node.Text})
		r := f.operand(value)
		f.at(n)
		f.emit(api.Ins{Op: api.ISeti, A: base, B: key, C: r})
	case api.NIndex:
		base := f.operand(node.Kids[0])
		key := f.operand(node.Kids[1])
		r := f.operand(value)
		f.at(n)
		f.emit(api.Ins{Op: api.ISeti, A: base, B: key, C: r})
	}
	f.count(first - f.count(0))
}

// put assigns a register to a variable.
func (f *function) put(v, r int) {
	i := api.Ins{Op: api.ISet, B: r}
	switch {
	case f.p.e.Scope.Vars[v].Fn != f.index:
		i.Op, i.A = api.ISetu, f.taken(v)
	case f.p.e.Scope.Vars[v].Taken:
		i.Op, i.A = api.ISetc, f.regs[v]
	default:
		i.A = f.regs[v]
	}
	f.emit(i)
}

// short tells the number of a name's constant, if it fits where a word has a name.
func (f *function) short(name string) (int, bool) {
	n := f.constant(api.Value{Kind: api.Str, S: name})
	return n, n <= 255
}

// choice compiles an if.
func (f *function) choice(kids []int) {
	first := f.count(0)
	r := f.operand(kids[0])
	f.at(kids[0])
	away := f.branch(api.IBrf, r)
	f.count(first - f.count(0))
	f.block(kids[1])
	if f.p.l[kids[2]].Kind != api.NBlock {
		f.lead(away)
		return
	}
	end := f.jump()
	f.lead(away)
	f.block(kids[2])
	f.lead(end)
}

// loop compiles a while.
func (f *function) loop(kids []int) {
	outer := f.breaks
	f.breaks = nil
	top := f.here()
	first := f.count(0)
	r := f.operand(kids[0])
	f.at(kids[0])
	away := f.branch(api.IBrf, r)
	f.count(first - f.count(0))
	f.block(kids[1])
	f.emit(api.Ins{Op: api.IJump, D: top})
	f.lead(away)
	for _, b := range f.breaks {
		f.lead(b)
	}
	f.breaks = outer
}
