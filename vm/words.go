package vm

import (
	"slices"

	"ravelin/api"
	"ravelin/label"
	"ravelin/value"
)

// do does a word.
func (m *machine) do(f *frame, i api.Ins) {
	switch {
	case i.Op <= api.ISetu:
		m.move(f, i)
	case i.Op <= api.ICat:
		f.put(i.A, m.operate(f, i.Op-api.IAdd+api.OpAdd, f.get(i.B), f.get(i.C)))
	case i.Op <= api.ILei:
		if f.get(i.B).Kind != api.Int || f.get(i.C).Kind != api.Int {
			m.slips++
		}
		f.put(i.A, m.operate(f, i.Op-api.IAddi+api.OpAdd, f.get(i.B), f.get(i.C)))
	case i.Op <= api.ILen:
		m.prefix(f, i)
	case i.Op <= api.IJoin:
		m.jump(f, i)
	case i.Op >= api.ITable && i.Op <= api.ISeti || i.Op == api.IKey:
		m.table(f, i)
	case i.Op >= api.ICreate && i.Op <= api.IStatus:
		m.thread(f, i)
	default:
		m.other(f, i)
	}
}

// move puts constants, registers and cells into one another.
func (m *machine) move(f *frame, i api.Ins) {
	switch i.Op {
	case api.IConst:
		f.put(i.A, f.code.proto.Consts[i.D])
	case api.IMove, api.IInit:
		f.put(i.A, f.get(i.B))
	case api.ISet:
		m.may(f, f.get(i.A).Label)
		f.put(i.A, f.get(i.B))
	case api.ICell:
		n, is := m.heap.Cell(value.With(f.get(i.A), f.Pc()))
		m.room(is)
		f.regs[i.A] = register{v: api.Value{Label: f.Pc()}, cell: n + 1}
	case api.IGetc:
		f.put(i.A, value.With(m.heap.Load(f.regs[i.B].cell-1), f.get(i.B).Label))
	case api.ISetc:
		m.store(f, label.Join(f.Pc(), f.get(i.A).Label), f.regs[i.A].cell-1, f.get(i.B))
	case api.IGetu:
		f.put(i.A, m.heap.Load(f.cells[i.B]))
	case api.ISetu:
		m.store(f, f.Pc(), f.cells[i.A], f.get(i.B))
	}
}

// store puts a value into a cell; what is no cell takes nothing.
func (m *machine) store(f *frame, ctx api.Label, n int, v api.Value) {
	if m.heap.Store(ctx, n, v) == api.ErrFlow {
		m.stop(f.place())
	}
}

// operate tells what an operator answers.
func (m *machine) operate(f *frame, op int, a, b api.Value) api.Value {
	switch op {
	case api.OpEq:
		a, b = m.heap.Base(a), m.heap.Base(b)
	case api.OpCat:
		if a.Kind == api.Str && b.Kind == api.Str {
			m.long(len(a.S) + len(b.S))
		}
	}
	v, why := value.Do(op, a, b)
	if why != "" {
		m.throw(f, why, v.Label)
	}
	return v
}

// long takes so many bytes for a string.
func (m *machine) long(n int) {
	if n > m.lim.Bytes-m.bytes {
		m.finish(api.EndBytes)
	}
	m.bytes += n
}

// prefix does a prefix operator.
func (m *machine) prefix(f *frame, i api.Ins) {
	v := f.get(i.B)
	switch i.Op {
	case api.INeg:
		n, why := value.Neg(v)
		if why != "" {
			m.throw(f, why, n.Label)
		}
		f.put(i.A, n)
	case api.INot:
		f.put(i.A, value.Not(v))
	case api.ILen:
		f.put(i.A, m.length(f, v))
	}
}

// length tells how long a string or table is.
func (m *machine) length(f *frame, v api.Value) api.Value {
	if v.Kind == api.Str {
		return api.Value{Kind: api.Int, N: int64(len(v.S)), Label: v.Label}
	}
	t := m.heap.Of(v)
	if t == nil {
		m.throw(f, "length", v.Label)
	}
	return value.With(api.Value{Kind: api.Int, N: int64(t.Len())}, v.Label, t.Label())
}

// jump goes on at another place.
func (m *machine) jump(f *frame, i api.Ins) {
	if i.Op == api.IJoin {
		return
	}
	if i.Op != api.IJump {
		v := f.get(i.A)
		at := f.next - 1
		f.next++
		f.Branch(v.Label, f.code.words[at+1].D, at)
		if value.Truth(v) != (i.Op == api.IBrt) {
			return
		}
	}
	f.next = i.D
}

// table makes tables, and reads and writes them.
func (m *machine) table(f *frame, i api.Ins) {
	consts := f.code.proto.Consts
	switch i.Op {
	case api.ITable:
		t, is := m.heap.Table(f.Pc())
		m.room(is)
		f.put(i.A, t)
	case api.IStamp:
		if t := m.heap.Of(f.get(i.A)); t != nil {
			t.Stamp(m.stamp(i.D))
		}
	case api.IGetf:
		f.put(i.A, m.index(f, f.get(i.B), consts[i.C]))
	case api.IGets:
		if !m.stamped(f.get(i.B), consts[i.C].S) {
			m.slips++
		}
		f.put(i.A, m.index(f, f.get(i.B), consts[i.C]))
	case api.IGeti:
		f.put(i.A, m.index(f, f.get(i.B), f.get(i.C)))
	case api.ISetf:
		m.write(f, f.get(i.A), consts[i.B], f.get(i.C))
	case api.ISeti:
		m.write(f, f.get(i.A), f.get(i.B), f.get(i.C))
	case api.IKey:
		f.put(i.A, m.key(f, f.get(i.B), f.get(i.C)))
	}
}

// stamped tells whether a table has a stamp of a name.
func (m *machine) stamped(v api.Value, name string) bool {
	t := m.heap.Of(v)
	return t != nil && slices.ContainsFunc(t.Stamps(), func(s api.Stamp) bool { return s.Name == name })
}

// index tells what is in a table's field.
func (m *machine) index(f *frame, base, key api.Value) api.Value {
	t := m.heap.Of(base)
	if t == nil {
		m.throw(f, "index", base.Label, key.Label)
	}
	return value.With(t.Get(key), base.Label)
}

// write puts a value into a table's field.
func (m *machine) write(f *frame, base, key, v api.Value) {
	e, is := m.heap.Put(label.Join(f.Pc(), base.Label), base, key, v)
	m.room(is)
	switch e {
	case api.ErrNone:
		m.throw(f, "index", base.Label, key.Label)
	case api.ErrKey:
		m.throw(f, "key", base.Label, key.Label)
	case api.ErrFlow:
		m.stop(f.place())
	case api.ErrStamp:
		m.blame(f.place(), 1)
	}
}

// key tells a table's n-th key.
func (m *machine) key(f *frame, base, n api.Value) api.Value {
	t := m.heap.Of(base)
	if t == nil {
		m.throw(f, "index", base.Label, n.Label)
	}
	var k api.Value
	if n.Kind == api.Int {
		k, _ = t.Key(n.N)
	}
	return value.With(k, base.Label, n.Label, t.Label())
}

// other does what has to do with functions, channels and types.
func (m *machine) other(f *frame, i api.Ins) {
	switch i.Op {
	case api.IClosure:
		f.put(i.A, m.closure(f, i.D))
	case api.ICall:
		var args []api.Value
		for n := range i.B {
			args = append(args, f.get(i.A+1+n))
		}
		m.call(f, i.A, args, i.C == 1)
	case api.IReturn:
		m.answer(value.With(f.get(i.A), f.Pc()))
	case api.IRead:
		v, e := m.world.Read(f.Pc(), i.D)
		if e != api.OK {
			m.stop(f.place())
		}
		f.put(i.A, v)
	case api.IWrite:
		if m.world.Write(f.Pc(), i.D, f.get(i.A)) != api.OK {
			m.stop(f.place())
		}
	case api.IType:
		v := f.get(i.B)
		f.put(i.A, api.Value{Kind: api.Str, S: value.Type(v), Label: v.Label})
	case api.IPcall:
		m.protect(f, i.A)
	case api.IError:
		panic(thrown{value.With(f.get(i.A), f.Pc())})
	case api.ICast:
		f.put(i.A, m.cast(f.get(i.A), m.x.Casts[i.D].To, i.D))
	case api.IBound:
		m.may(f, api.Label(f.code.proto.Consts[i.D].N), f.get(i.A).Label)
	}
}

// closure makes a closure; its label has those of the registers that it takes.
func (m *machine) closure(f *frame, n int) api.Value {
	var cells []int
	var l api.Label
	for _, u := range m.x.Protos[n].Ups {
		if u.Local {
			cells = append(cells, f.regs[u.N].cell-1)
			l = label.Join(l, f.get(u.N).Label)
		} else {
			cells = append(cells, f.cells[u.N])
		}
	}
	v, is := m.heap.Closure(n, cells)
	m.room(is)
	return value.With(v, l)
}
