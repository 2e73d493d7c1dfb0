package vm

import (
	"ravelin/api"
	"ravelin/label"
	"ravelin/value"
)

// program is the number under which the program's own calls stand.
const program = -1

// What a thread may be.
const (
	suspended = iota
	running
	normal
	dead
)

// thread is calls of their own, and who may know how they go on.
type thread struct {
	frames  []*frame
	label   api.Label
	fn      api.Value // what is called first
	started bool
	status  int
	waits   int       // the register to which yield's answer goes
	resumer int       // the thread that resumed it
	into    int       // the register of the resumer to which the outcome goes
	context api.Label // what it hung on that it was resumed
}

// top is the call that goes on just now, nil if all calls of the thread have ended.
func (m *machine) top() *frame {
	frames := m.threads[m.now].frames
	if len(frames) == 0 {
		return nil
	}
	return frames[len(frames)-1]
}

// push begins a call.
func (m *machine) push(f *frame) {
	m.deepen(1)
	t := m.threads[m.now]
	t.frames = append(t.frames, f)
}

// deepen notes that so many more calls are within one another.
func (m *machine) deepen(n int) {
	if n > m.lim.Frames-m.deep {
		m.finish(api.EndFrames)
	}
	m.deep += n
}

// pop ends a call.
func (m *machine) pop() *frame {
	t := m.threads[m.now]
	last := len(t.frames) - 1
	f := t.frames[last]
	t.frames[last] = nil
	t.frames = t.frames[:last]
	m.deep--
	return f
}

// thread does a word that has to do with threads.
func (m *machine) thread(f *frame, i api.Ins) {
	switch i.Op {
	case api.ICreate:
		f.put(i.A, m.create(f, f.get(i.A)))
	case api.IResume:
		m.resume(f, i.A, f.get(i.B))
	case api.IYield:
		m.yield(f, i.A)
	case api.IStatus:
		f.put(i.A, m.status(f, f.get(i.B)))
	}
}

// create makes a thread that will do a function.
func (m *machine) create(f *frame, fn api.Value) api.Value {
	if _, is := m.heap.Fn(fn); !is {
		m.throw(f, "call", fn.Label)
	}
	m.room(m.heap.Charge(1))
	n := len(m.threads) - 1
	m.threads[n] = &thread{label: label.Join(f.Pc(), fn.Label), fn: fn}
	return api.Value{Kind: api.Thread, N: int64(n)}
}

// find tells a value's thread.
func (m *machine) find(f *frame, v api.Value) *thread {
	if t, is := m.threads[int(v.N)]; is && v.Kind == api.Thread {
		return t
	}
	m.throw(f, "index", v.Label)
	return nil
}

// resume lets a thread go on.
func (m *machine) resume(f *frame, r int, v api.Value) {
	whom := f.get(r)
	t := m.find(f, whom)
	context := label.Join(f.Pc(), whom.Label)
	m.may(f, t.label, context)
	if t.status != suspended {
		m.throw(f, "resume", context, t.label)
	}
	v = value.With(v, t.label)
	t.resumer, t.into, t.context = m.now, r, context
	m.threads[m.now].status = normal
	t.status = running
	m.now = int(whom.N)
	if t.started {
		m.deepen(len(t.frames))
		m.top().put(t.waits, v)
		return
	}
	t.started = true
	fn, _ := m.heap.Fn(t.fn)
	m.enter(fn, m.casts([]api.Value{v}, fn, loose(f.place())), t.label)
}

// yield lets the resumer go on.
func (m *machine) yield(f *frame, r int) {
	t := m.threads[m.now]
	if m.now == program {
		m.throw(f, "yield")
	}
	m.may(f, t.label)
	t.waits = r
	m.leave(suspended, true, f.get(r))
}

// leave goes from a thread back to its resumer, with how it came out.
func (m *machine) leave(status int, ok bool, v api.Value) {
	t := m.threads[m.now]
	t.status = status
	m.deep -= len(t.frames)
	m.now = t.resumer
	m.threads[m.now].status = running
	f := m.top()
	if !ok {
		m.may(f, f.Pc(), v.Label)
	}
	m.outcome(f, t.into, ok, v, t.context, t.label)
}

// status tells what a thread is doing.
func (m *machine) status(f *frame, v api.Value) api.Value {
	t := m.find(f, v)
	names := [...]string{suspended: "suspended", running: "running", normal: "normal", dead: "dead"}
	return value.With(api.Value{Kind: api.Str, S: names[t.status]}, v.Label, t.label)
}
