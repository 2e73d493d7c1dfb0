package lower

import (
	"ravelin/api"
	"ravelin/num"
	"ravelin/types"
)

// operand tells a register in which an expression's value is: a variable's own, if it has one and there is no cast.
func (f *function) operand(n int) int {
	if v, is := f.own(n); is {
		return f.regs[v]
	}
	r := f.count(1)
	f.exp(n, r)
	return r
}

// own tells the variable of a name that stands in a register as it is.
func (f *function) own(n int) (int, bool) {
	if f.p.l[n].Kind != api.NName {
		return 0, false
	}
	v := f.p.e.Scope.Uses[n]
	_, cast := f.p.casts[n]
	return v, !cast && f.p.e.Scope.Vars[v].Fn == f.index && !f.p.e.Scope.Vars[v].Taken
}

// exp puts an expression's value into the register that was taken last, which nothing else needs.
func (f *function) exp(n, r int) {
	f.at(n)
	first := f.count(0)
	f.value(n, r)
	f.count(first - f.count(0))
	f.at(n)
	if c, is := f.p.casts[n]; is {
		f.emit(api.Ins{Op: api.ICast, A: r, D: c})
	}
}

// value puts an expression's value into a register, ahead of its cast.
func (f *function) value(n, r int) {
	node := f.p.l[n]
	switch node.Kind {
	case api.NNil:
		f.load(r, api.Value{})
	case api.NBool:
		v := api.Value{Kind: api.Bool}
		if node.Text == "true" {
			v.N = 1
		}
		f.load(r, v)
	case api.NInt:
		v, _ := num.Number(node.Text)
		f.load(r, api.Value{Kind: api.Int, N: v})
	case api.NStr:
		f.load(r, api.Value{Kind: api.Str, S: node.Text})
	case api.NName:
		f.name(n, r)
	case api.NFunc:
		fn := f.p.function(n, f)
		f.emit(api.Ins{Op: api.IClosure, A: r, D: fn})
	case api.NField:
		f.field(n, r)
	case api.NIndex:
		base := f.operand(node.Kids[0])
		key := f.operand(node.Kids[1])
		f.at(n)
		f.emit(api.Ins{Op: api.IGeti, A: r, B: base, C: key})
	case api.NCall:
		f.call(n, r)
	case api.NBuiltin:
		f.builtin(n, r)
	case api.NTable:
		f.table(n, r)
	case api.NBin:
		f.binary(n, r)
	case api.NUn:
		kid := f.operand(node.Kids[0])
		f.at(n)
		f.emit(api.Ins{Op: prefix(node.Text), A: r, B: kid})
	case api.NAnd:
		f.either(api.IBrf, node.Kids, r)
	case api.NOr:
		f.either(api.IBrt, node.Kids, r)
	}
}

// name puts a variable's value into a register.
func (f *function) name(n, r int) {
	v := f.p.e.Scope.Uses[n]
	i := api.Ins{Op: api.IMove, A: r}
	switch {
	case f.p.e.Scope.Vars[v].Fn != f.index:
		i.Op, i.B = api.IGetu, f.taken(v)
	case f.p.e.Scope.Vars[v].Taken:
		i.Op, i.B = api.IGetc, f.regs[v]
	default:
		i.B = f.regs[v]
	}
	f.emit(i)
}

// field puts a field's value into a register: without a look at the stamps, where the type says that there is one.
func (f *function) field(n, r int) {
	node := f.p.l[n]
	base := f.operand(node.Kids[0])
	name, is := f.short(node.Text)
	f.at(n)
	switch {
	case !is:
		key := f.count(1)
		f.load(key, api.Value{Kind: api.Str, S: node.Text})
		f.emit(api.Ins{Op: api.IGeti, A: r, B: base, C: key})
	case f.p.surely(node.Kids[0], api.TShape):
		f.emit(api.Ins{Op: api.IGets, A: r, B: base, C: name})
	default:
		f.emit(api.Ins{Op: api.IGetf, A: r, B: base, C: name})
	}
}

// call puts a call's answer into a register, behind which its arguments stand: it is the last one that is taken.
func (f *function) call(n, r int) {
	kids := f.p.l[n].Kids
	f.exp(kids[0], r)
	for _, k := range kids[1:] {
		f.exp(k, f.count(1))
	}
	loose := 0
	if _, is := f.p.loose[n]; is {
		loose = 1
	}
	f.at(n)
	f.emit(api.Ins{Op: api.ICall, A: r, B: len(kids) - 1, C: loose})
}

// drop compiles a call whose answer nobody wants.
func (f *function) drop(n int) {
	first := f.count(0)
	node := f.p.l[n]
	if node.Kind == api.NBuiltin && node.Text == "write" {
		f.write(n)
	} else {
		f.exp(n, f.count(1))
	}
	f.count(first - f.count(0))
}

// write puts something out.
func (f *function) write(n int) {
	kids := f.p.l[n].Kids
	r := f.operand(kids[1])
	f.at(n)
	f.emit(api.Ins{Op: api.IWrite, A: r, D: f.channel(kids[0])})
}

// channel tells the number of a channel.
func (f *function) channel(n int) int {
	k, _ := num.Number(f.p.l[n].Text)
	return int(k)
}

// builtin puts a builtin's answer into a register.
func (f *function) builtin(n, r int) {
	node := f.p.l[n]
	kids := node.Kids
	switch node.Text {
	case "read":
		f.emit(api.Ins{Op: api.IRead, A: r, D: f.channel(kids[0])})
	case "write":
		f.write(n)
		f.load(r, api.Value{})
	case "type", "status":
		kid := f.operand(kids[0])
		f.at(n)
		f.emit(api.Ins{Op: builtin(node.Text), A: r, B: kid})
	case "key":
		t := f.operand(kids[0])
		k := f.operand(kids[1])
		f.at(n)
		f.emit(api.Ins{Op: api.IKey, A: r, B: t, C: k})
	case "resume":
		f.exp(kids[0], r)
		v := f.operand(kids[1])
		f.at(n)
		f.emit(api.Ins{Op: api.IResume, A: r, B: v})
		f.stamp(n, r)
	default:
		f.exp(kids[0], r)
		f.at(n)
		f.emit(api.Ins{Op: builtin(node.Text), A: r})
		f.stamp(n, r)
	}
}

// builtin tells a builtin's instruction.
func builtin(name string) int {
	switch name {
	case "type":
		return api.IType
	case "status":
		return api.IStatus
	case "pcall":
		return api.IPcall
	case "error":
		return api.IError
	case "create":
		return api.ICreate
	}
	return api.IYield
}

// stamp stamps a new table, if its type tells what is in it: one of too many parts has no stamps.
func (f *function) stamp(n, r int) {
	if t := f.p.e.Types[n]; t.Kind == api.TShape && types.Check(t) {
		f.emit(api.Ins{Op: api.IStamp, A: r, D: f.p.shape(t, n)})
	}
}

// table puts a new table into a register.
func (f *function) table(n, r int) {
	f.emit(api.Ins{Op: api.ITable, A: r})
	items := int64(0)
	for _, k := range f.p.l[n].Kids {
		key := api.Value{Kind: api.Str, S: f.p.l[k].Text}
		if f.p.l[k].Kind == api.NItem {
			items++
			key = api.Value{Kind: api.Int, N: items}
		}
		first := f.count(0)
		f.entry(r, key, f.p.l[k].Kids[0])
		f.count(first - f.count(0))
	}
	f.at(n)
	f.stamp(n, r)
}

// entry puts a value into a new table.
func (f *function) entry(r int, key api.Value, n int) {
	v := f.operand(n)
	if key.Kind == api.Str {
		if name, is := f.short(key.S); is {
			f.emit(api.Ins{Op: api.ISetf, A: r, B: name, C: v})
			return
		}
	}
	k := f.count(1)
	f.load(k, key)
	f.emit(api.Ins{Op: api.ISeti, A: r, B: k, C: v})
}

// either puts one of two values into a register.
func (f *function) either(op int, kids []int, r int) {
	f.exp(kids[0], r)
	away := f.branch(op, r)
	f.exp(kids[1], r)
	f.lead(away)
}

// prefix tells a prefix operator's instruction.
func prefix(text string) int {
	switch text {
	case "-":
		return api.INeg
	case "#":
		return api.ILen
	}
	return api.INot
}

// operator tells an operator's instruction, the one for two ints, and whether its sides change places.
func operator(text string) (op, ints int, turned bool) {
	switch text {
	case "+":
		return api.IAdd, api.IAddi, false
	case "-":
		return api.ISub, api.ISubi, false
	case "*":
		return api.IMul, api.IMuli, false
	case "//":
		return api.IDiv, api.IDivi, false
	case "%":
		return api.IMod, api.IModi, false
	case "<":
		return api.ILt, api.ILti, false
	case "<=":
		return api.ILe, api.ILei, false
	case ">":
		return api.ILt, api.ILti, true
	case ">=":
		return api.ILe, api.ILei, true
	case "..":
		return api.ICat, api.ICat, false
	}
	return api.IEq, api.IEq, false
}

// binary puts what an operator answers into a register.
func (f *function) binary(n, r int) {
	node := f.p.l[n]
	left := f.operand(node.Kids[0])
	right := f.operand(node.Kids[1])
	op, ints, turned := operator(node.Text)
	if f.p.surely(node.Kids[0], api.TInt) && f.p.surely(node.Kids[1], api.TInt) {
		op = ints
	}
	if turned {
		left, right = right, left
	}
	f.at(n)
	f.emit(api.Ins{Op: op, A: r, B: left, C: right})
	if node.Text == "~=" {
		f.emit(api.Ins{Op: api.INot, A: r, B: r})
	}
}
