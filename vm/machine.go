package vm

import (
	"ravelin/api"
	"ravelin/flow"
	"ravelin/guard"
	"ravelin/heap"
	"ravelin/instr"
	"ravelin/label"
	"ravelin/types"
	"ravelin/value"
	"ravelin/world"
)

// function is a function whose words are taken apart, and what its branches may write.
type function struct {
	proto  api.Proto
	words  []api.Ins
	writes map[int][]int
}

// written tells the registers that may be written between a branch and where its ways meet.
func (f *function) written(at int) []int {
	l, is := f.writes[at]
	if !is {
		l = flow.Writes(f.proto, at)
		f.writes[at] = l
	}
	return l
}

// register is a value, or a cell: then v is a nil with the register's own label.
type register struct {
	v    api.Value
	cell int // one more than the cell's number, 0 of no cell
}

// frame is a call that goes on: what its label hangs on, its registers, the cells that it takes.
type frame struct {
	*guard.Guard
	code      *function
	regs      []register
	cells     []int
	next      int       // the place of the next word
	into      int       // the register of the caller to which the answer goes
	protected bool      // whether a pcall made it
	answers   []outcast // casts of the answer, the last one first
}

// outcast is a type to which an answer is cast, and the cast that said so.
type outcast struct {
	to   api.Type
	cast int
}

// get tells what is in a register; a cell is a nil.
func (f *frame) get(r int) api.Value { return f.regs[r].v }

// put puts a value into a register.
func (f *frame) put(r int, v api.Value) {
	f.regs[r] = register{v: value.With(v, f.Pc())}
}

// place tells the place in the text of the word that is done just now.
func (f *frame) place() int { return f.code.proto.Places[f.next-1] }

// machine is an image and a run of it.
type machine struct {
	x       api.Image
	lim     api.Limits
	heap    *heap.Heap
	world   *world.World
	codes   []*function
	stamps  [][]api.Stamp
	threads map[int]*thread
	now     int // which thread runs
	deep    int // how many calls are within one another
	done    int
	bytes   int
	slips   int
	failing bool
	failure api.Value
	end     ending
}

func newMachine(x api.Image, in api.Inputs, lim api.Limits) *machine {
	lim.Fuel, lim.Frames, lim.Bytes = max(lim.Fuel, 0), max(lim.Frames, 1), max(lim.Bytes, 0)
	m := &machine{x: x, lim: lim, heap: heap.New(lim.Cells), world: world.New(x.Masks, in), codes: make([]*function, len(x.Protos)), stamps: make([][]api.Stamp, len(x.Shapes))}
	m.threads = map[int]*thread{program: {status: running}}
	m.now = program
	m.push(&frame{Guard: guard.New(0), code: m.code(0), regs: make([]register, x.Protos[0].Regs)})
	return m
}

// code tells a function, taken apart once it is called.
func (m *machine) code(n int) *function {
	if m.codes[n] == nil {
		f := &function{proto: m.x.Protos[n], writes: map[int][]int{}}
		for _, w := range f.proto.Words {
			i, _ := instr.Decode(w)
			f.words = append(f.words, i)
		}
		m.codes[n] = f
	}
	return m.codes[n]
}

// stamp tells the stamps of a shape.
func (m *machine) stamp(n int) []api.Stamp {
	if m.stamps[n] == nil {
		m.stamps[n] = types.Stamps(m.x.Shapes[n])
	}
	return m.stamps[n]
}

// finish ends the run.
func (m *machine) finish(end int) { panic(ending{end: end}) }

// stop ends the run at a flow that is forbidden.
func (m *machine) stop(at int) { panic(ending{end: api.EndStop, at: at}) }

// blame ends the run at a cast or loose use.
func (m *machine) blame(at, side int) {
	panic(ending{end: api.EndBlame, at: at, side: side})
}

// throw ends calls up to the innermost pcall or resume, with a text that hangs on pc and on labels.
func (m *machine) throw(f *frame, text string, l ...api.Label) {
	panic(thrown{value.With(api.Value{Kind: api.Str, S: text, Label: f.Pc()}, l...)})
}

// some does words until the run is over, or an error is thrown.
func (m *machine) some() (over bool) {
	defer func() {
		switch r := recover().(type) {
		case ending:
			m.end, over = r, true
		case thrown:
			m.failing, m.failure = true, r.v
		case nil:
		default:
			panic(r)
		}
	}()
	if m.failing {
		m.failing = false
		m.caught(m.failure)
	}
	for {
		m.step()
	}
}

// step does the next word.
func (m *machine) step() {
	f := m.top()
	m.arrive(f)
	if m.done >= m.lim.Fuel {
		m.finish(api.EndFuel)
	}
	m.done++
	f.next++
	m.do(f, f.code.words[f.next-1])
}

// arrive closes the regions that end here: what was written in them hangs on what they hung on.
func (m *machine) arrive(f *frame) {
	if f.Deep() == 0 {
		return
	}
	within := f.Pc()
	for _, tag := range f.At(f.next) {
		if within == 0 {
			continue
		}
		for _, r := range f.code.written(tag) {
			f.regs[r].v = value.With(f.regs[r].v, within)
		}
	}
}

// may stops the run, if labels don't flow to another one.
func (m *machine) may(f *frame, to api.Label, l ...api.Label) {
	if !f.May(to) || !label.Flows(label.Join(l...), to) {
		m.stop(f.place())
	}
}

// room ends the run, if there was no room.
func (m *machine) room(is bool) {
	if !is {
		m.finish(api.EndCells)
	}
}
