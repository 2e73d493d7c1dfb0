package vm

import (
	"ravelin/api"
	"ravelin/guard"
	"ravelin/label"
	"ravelin/value"
)

// loose is the number of the casts that a loose call at a place does.
func loose(at int) int { return -1 - at }

// cast makes a value one of a type, or blames whom the cast names.
func (m *machine) cast(v api.Value, to api.Type, cast int) api.Value {
	v, can, room := m.heap.Cast(v, to, cast)
	switch {
	case !room:
		m.finish(api.EndCells)
	case !can && cast < 0:
		m.blame(loose(cast), 1)
	case !can:
		m.blame(m.x.Casts[cast].At, m.x.Casts[cast].Side)
	}
	return v
}

// types tells a function's types: its parameters', then its answer's.
func (m *machine) types(f api.Fn) []api.Type {
	if f.Wraps {
		return f.To.Args
	}
	return m.x.Protos[f.Proto].Types
}

// fit makes a list so long: more are dropped, nils stand for those that aren't there.
func fit(args []api.Value, many int) []api.Value {
	l := make([]api.Value, many)
	copy(l, args)
	return l
}

// casts makes arguments those of a function, each one of its parameter's type.
func (m *machine) casts(args []api.Value, f api.Fn, cast int) []api.Value {
	types := m.types(f)
	args = fit(args, len(types)-1)
	for n := range args {
		args[n] = m.cast(args[n], types[n], cast)
	}
	return args
}

// enter calls a function: the frame that it makes has pc at least, and wants its answer cast as wrappers say.
func (m *machine) enter(fn api.Fn, args []api.Value, pc api.Label) *frame {
	var answers []outcast
	for fn.Wraps {
		inner, _ := m.heap.Fn(fn.Inner)
		last := len(fn.To.Args) - 1
		args = m.casts(fit(args, last), inner, fn.Cast)
		answers = append(answers, outcast{fn.To.Args[last], fn.Cast})
		fn = inner
	}
	code := m.code(fn.Proto)
	f := &frame{Guard: guard.New(pc), code: code, regs: make([]register, code.proto.Regs), cells: fn.Cells, answers: answers}
	for n, v := range fit(args, len(code.proto.Types)-1) {
		f.put(n, v)
	}
	m.push(f)
	return f
}

// call calls the function in a register; the answer goes there, too.
func (m *machine) call(f *frame, r int, args []api.Value, freely bool) *frame {
	base := f.get(r)
	fn, is := m.heap.Fn(base)
	if !is {
		m.throw(f, "call", base.Label)
	}
	if freely {
		args = m.casts(args, fn, loose(f.place()))
	}
	callee := m.enter(fn, args, label.Join(f.Pc(), base.Label))
	callee.into = r
	return callee
}

// protect calls the function in a register so that its errors end here.
func (m *machine) protect(f *frame, r int) {
	base := f.get(r)
	if _, is := m.heap.Fn(base); !is {
		m.failed(f, r, value.With(api.Value{Kind: api.Str, S: "call"}, f.Pc(), base.Label))
		return
	}
	m.call(f, r, nil, true).protected = true
}

// failed tells of an error that ended a protected call.
func (m *machine) failed(f *frame, r int, v api.Value) {
	m.may(f, f.Pc(), v.Label)
	m.outcome(f, r, false, v)
}

// outcome puts into a register a table of how a call ended; its fields hang on labels.
func (m *machine) outcome(f *frame, r int, ok bool, v api.Value, l ...api.Label) {
	is := api.Value{Kind: api.Bool}
	if ok {
		is.N = 1
	}
	t, room := m.heap.Table(f.Pc())
	m.room(room)
	m.write(f, t, api.Value{Kind: api.Str, S: "ok"}, value.With(is, l...))
	m.write(f, t, api.Value{Kind: api.Str, S: "value"}, value.With(v, l...))
	f.put(r, t)
}

// answer ends the topmost call.
func (m *machine) answer(v api.Value) {
	f := m.pop()
	for n := len(f.answers) - 1; n >= 0; n-- {
		v = m.cast(v, f.answers[n].to, f.answers[n].cast)
	}
	caller := m.top()
	switch {
	case caller == nil && m.now == program:
		panic(ending{end: api.EndDone, value: plain(v)})
	case caller == nil:
		m.leave(dead, true, v)
	case f.protected:
		m.outcome(caller, f.into, true, v)
	default:
		caller.put(f.into, v)
	}
}

// caught ends calls up to the innermost pcall or resume.
func (m *machine) caught(v api.Value) {
	for m.top() != nil {
		f := m.pop()
		if f.protected {
			m.failed(m.top(), f.into, v)
			return
		}
	}
	if m.now == program {
		panic(ending{end: api.EndError, value: plain(v)})
	}
	m.leave(dead, false, v)
}
