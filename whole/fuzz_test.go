package whole

import (
	"flag"
	"math/rand"
	"slices"
	"strconv"
	"strings"
	"testing"

	"ravelin/api"
	"ravelin/check"
	"ravelin/code"
	"ravelin/label"
	"ravelin/lower"
	"ravelin/parse"
	"ravelin/verify"
	"ravelin/vm"
)

// more makes other programs, and more of them, where somebody wants to wait for them.
var more = flag.Int("more", 0, "how many times as many programs")

// random tells where random programs come from, and how many there are.
func random(seed, many int) (*rand.Rand, int) {
	return rand.New(rand.NewSource(int64(seed + 1000**more))), many * (1 + *more)
}

// writer writes random programs; names are the variables that can be seen, by their first letter's kind: i ints, t tables, f functions, c threads, x anything.
type writer struct {
	r     *rand.Rand
	names []string
	count int
	deep  int
	loops int
	fns   int
	typed bool
}

func (w *writer) one(l ...string) string { return l[w.r.Intn(len(l))] }

// seen tells a name of a kind, if there is one.
func (w *writer) seen(kind string) (string, bool) {
	var l []string
	for _, n := range w.names {
		if strings.HasPrefix(n, kind) {
			l = append(l, n)
		}
	}
	if len(l) == 0 {
		return "", false
	}
	return l[w.r.Intn(len(l))], true
}

func (w *writer) fresh(kind string) string {
	w.count++
	return kind + strconv.Itoa(w.count)
}

// ints writes an expression that is an int, most times.
func (w *writer) ints(d int) string {
	if n, is := w.seen("i"); is && w.r.Intn(3) == 0 {
		return n
	}
	if d <= 0 {
		return w.one("0", "1", "2", "3")
	}
	switch w.r.Intn(14) {
	case 0, 1:
		return "(" + w.ints(d-1) + w.one(" + ", " - ", " * ", " // ", " % ") + w.ints(d-1) + ")"
	case 2:
		return "(read(" + w.one("0", "1", "1", "2") + ") or " + w.ints(d-1) + ")"
	case 3:
		if n, is := w.seen("t"); is {
			return n + w.one(".a", ".b", "[1]")
		}
	case 4:
		if n, is := w.seen("f"); is {
			return n + "(" + w.ints(d-1) + ")"
		}
	case 5:
		return "(" + w.truth(d-1) + " and " + w.ints(d-1) + " or " + w.ints(d-1) + ")"
	case 6:
		if n, is := w.seen("t"); is {
			return "#" + n
		}
	case 7:
		if n, is := w.seen("c"); is {
			return "resume(" + n + ", " + w.ints(d-1) + ").value"
		}
	case 8:
		if w.fns > 0 {
			return "yield(" + w.ints(d-1) + ")"
		}
	case 9:
		if n, is := w.seen("x"); is {
			return n
		}
	case 10:
		return "pcall(" + w.function(d-1, "") + ").value"
	case 11:
		return "(" + w.ints(d-1) + w.one(" and ", " or ") + w.ints(d-1) + ")"
	}
	return w.one("0", "1", "2", "3")
}

// truth writes a condition.
func (w *writer) truth(d int) string {
	if d <= 0 {
		return w.one("true", "false", "read(1) == 0", "read(1)")
	}
	switch w.r.Intn(8) {
	case 0:
		return "not " + w.truth(d-1)
	case 1:
		return "(" + w.truth(d-1) + w.one(" and ", " or ") + w.truth(d-1) + ")"
	case 2:
		return w.any(d-1) + w.one(" == ", " ~= ") + w.any(d-1)
	case 3:
		return "type(" + w.any(d-1) + ") == \"" + w.one("int", "nil", "table", "function") + "\""
	case 4:
		if n, is := w.seen("c"); is {
			return "status(" + n + ") == \"" + w.one("suspended", "dead", "running") + "\""
		}
	case 5:
		return w.one("read(1) == 0", "read(1) == 1", "read(2)")
	}
	return w.ints(d-1) + w.one(" < ", " <= ", " > ", " >= ") + w.ints(d-1)
}

// any writes any expression.
func (w *writer) any(d int) string {
	switch w.r.Intn(12) {
	case 0:
		return w.table(d)
	case 1:
		return w.function(d-1, w.one("", "p", "p"))
	case 2:
		return "nil"
	case 3:
		return "(" + w.truth(d-1) + ")"
	case 4:
		return w.one("\"s\"", "(\"a\" .. \"b\")")
	case 5, 6:
		if len(w.names) > 0 {
			return w.names[w.r.Intn(len(w.names))]
		}
	case 7:
		if n, is := w.seen("t"); is {
			return "key(" + n + ", " + w.ints(0) + ")"
		}
	}
	return w.ints(d)
}

func (w *writer) table(d int) string {
	switch w.r.Intn(4) {
	case 0:
		return "{" + w.any(d-1) + ", " + w.ints(d-1) + "}"
	case 1:
		return "{a = " + w.ints(d-1) + ", b = " + w.any(d-1) + "}"
	case 2:
		return "{a = " + w.ints(d-1) + ", " + w.any(d-1) + "}"
	}
	return "{}"
}

// ty writes a type behind a name, now and then.
func (w *writer) ty(l ...string) string {
	if w.typed && w.r.Intn(2) == 0 {
		return ": " + w.one(l...)
	}
	return ""
}

// bound writes a mask behind a type, now and then.
func (w *writer) bound(ty string) string {
	if w.r.Intn(12) == 0 {
		if ty == "" {
			ty = ": any"
		}
		return ty + " @ " + w.one("0", "1", "3", "-1")
	}
	return ty
}

// function writes a function with at most one parameter.
func (w *writer) function(d int, param string) string {
	names, loops := slices.Clone(w.names), w.loops
	head := "function("
	if param != "" {
		n := w.fresh(w.one("i", "x"))
		head += n + w.bound(w.ty("int", "any", "int | nil"))
		w.names = append(w.names, n)
	}
	w.loops = 0
	w.fns++
	s := head + ")" + w.ty("any") + " " + w.block(d) + " end"
	w.fns--
	w.names, w.loops = names, loops
	return s
}

// block writes some statements.
func (w *writer) block(d int) string {
	if d <= 0 || w.deep > 6 {
		return w.one("", "return 1", "error(2)", "write(0, 7)", "return "+w.ints(0))
	}
	names := slices.Clone(w.names)
	w.deep++
	var b []string
	for range 1 + w.r.Intn(3) {
		b = append(b, w.statement(d))
	}
	if w.r.Intn(5) == 0 {
		b = append(b, "return "+w.ints(d-1))
	} else if w.loops > 0 && w.r.Intn(3) == 0 {
		b = append(b, "break")
	}
	w.deep--
	w.names = names
	return strings.Join(b, " ")
}

func (w *writer) local(kind, ty, value string) string {
	n := w.fresh(kind)
	w.names = append(w.names, n)
	return "local " + n + w.bound(ty) + " = " + value
}

func (w *writer) statement(d int) string {
	switch w.r.Intn(17) {
	case 0, 1:
		return w.local("i", w.ty("int", "any", "int | nil"), w.ints(d-1))
	case 2:
		return w.local("t", w.ty("table", "{a: int, b: any}", "{a: any}", "any"), w.table(d-1))
	case 3:
		return w.local("f", w.ty("any", "(int) -> any", "(any) -> int"), w.function(d-1, "p"))
	case 4:
		n := w.fresh("f")
		w.names = append(w.names, n)
		return "function " + n + strings.TrimPrefix(w.function(d-1, "p"), "function")
	case 5:
		return w.local("c", w.ty("any", "thread"), "create("+w.function(d-1, "p")+")")
	case 6:
		return w.local("x", w.ty("any"), w.any(d-1))
	case 7, 8:
		if n, is := w.seen(w.one("i", "x")); is {
			return n + " = " + w.ints(d-1)
		}
	case 9:
		if n, is := w.seen("t"); is {
			return n + w.one(".a", ".b", "[1]", "["+w.any(0)+"]") + " = " + w.any(d-1)
		}
	case 10, 11:
		s := "if " + w.truth(d-1) + " then " + w.block(d-1)
		if w.r.Intn(2) == 0 {
			s += " else " + w.block(d-1)
		}
		return s + " end"
	case 12:
		c := w.truth(d - 1)
		w.loops++
		s := "while " + c + " do " + w.block(d-1) + " end"
		w.loops--
		return s
	case 13:
		n := w.fresh("i")
		w.loops++
		s := "local " + n + " = 0 while " + n + " < 3 do " + n + " = " + n + " + 1 " + w.block(d-1) + " end"
		w.loops--
		return s
	case 14:
		if n, is := w.seen("f"); is {
			return n + "(" + w.any(d-1) + ")"
		}
	}
	return "write(" + w.one("0", "0", "1", "2") + ", " + w.any(d-1) + ")"
}

func program(r *rand.Rand, typed bool) string {
	w := &writer{r: r, typed: typed}
	head := "channel 1 = 1 channel 2 = 3 "
	if r.Intn(5) == 0 {
		head = ""
	}
	var b []string
	for range 2 + r.Intn(6) {
		b = append(b, w.statement(3))
	}
	return head + strings.Join(b, " ")
}

var tight = api.Limits{Fuel: 3000, Frames: 60, Cells: 3000, Bytes: 3000}

func inputs(r *rand.Rand) api.Inputs {
	var in api.Inputs
	for k := range 3 {
		for range r.Intn(5) {
			in[k] = append(in[k], int64(r.Intn(3)))
		}
	}
	return in
}

// images tells what both checks make of a text.
func images(t *testing.T, s string) (l []api.Node, es []api.Elab, xs []api.Image) {
	l, at, err := parse.Program(s)
	if err != api.OK {
		t.Fatalf("%q: %d %d", s, at, err)
	}
	if e, _, err := check.Tree(l); err == api.OK {
		es = append(es, e)
	}
	if e, _, err := check.Bare(l); err == api.OK {
		es = append(es, e)
	}
	for _, e := range es {
		x, _, err := lower.Program(l, e)
		if err != api.OK {
			t.Fatalf("%q: %d", s, err)
		}
		if fn, w, err := verify.Check(x); err != api.OK {
			t.Fatalf("%q: %d %d %d", s, fn, w, err)
		}
		xs = append(xs, x)
	}
	return l, es, xs
}

// P24.1: what was lowered does what is said of the tree.
func TestOracle(t *testing.T) {
	r, many := random(24, 5000)
	ends := map[string]int{}
	for range many {
		s := program(r, r.Intn(2) == 0)
		l, es, xs := images(t, s)
		for n, x := range xs {
			in := inputs(r)
			got := run(t, x, in, tight)
			kind := "bare"
			if len(xs) == 2 && n == 0 {
				kind = "tree"
				if got.Slips != 0 {
					t.Fatalf("%s\nslips", s)
				}
				if check.Plain(es[n]) && got.End == api.EndBlame {
					t.Fatalf("%s\nblame", s)
				}
			}
			if got.End >= api.EndFuel {
				ends["limit"]++
				continue
			}
			ends[kind+strings.Fields(brief(got))[0]]++
			o := newOracle(l, es[n], x.Masks, in)
			want := o.run()
			if o.refused {
				t.Fatalf("%s\n%s: a new table refuses its stamps", s, kind)
			}
			if !vm.Same(got, want) {
				t.Fatalf("%s\n%s %v\nvm:     %s %v\noracle: %s %v\n%s", s, kind, in, brief(got), got.Places, brief(want), want.Places, code.Show(x.Protos[0]))
			}
		}
	}
	t.Log(ends)
}

// low tells the events on channels whose labels flow to see.
func low(l []api.Event, masks [8]api.Label, see api.Label) []api.Event {
	var c []api.Event
	for _, e := range l {
		if label.Flows(masks[e.Channel], see) {
			c = append(c, e)
		}
	}
	return c
}

func begins(a, b []api.Event) bool {
	n := min(len(a), len(b))
	return slices.Equal(a[:n], b[:n])
}

// secret changes the inputs that see may not tell.
func secret(r *rand.Rand, in api.Inputs, masks [8]api.Label, see api.Label) api.Inputs {
	other := inputs(r)
	for k := range in {
		if label.Flows(masks[k], see) {
			other[k] = in[k]
		}
	}
	return other
}

// learns looks at two runs of an image that one observer must not tell apart.
func learns(t *testing.T, r *rand.Rand, x api.Image) (done bool) {
	see := api.Label(r.Intn(4))
	in := inputs(r)
	p, q := tight, tight
	if r.Intn(3) == 0 {
		q = api.Limits{Fuel: r.Intn(300), Frames: 1 + r.Intn(4), Cells: r.Intn(30), Bytes: r.Intn(20)}
	}
	a, b := run(t, x, in, p), run(t, x, secret(r, in, x.Masks, see), q)
	lowA, lowB := low(a.Events, x.Masks, see), low(b.Events, x.Masks, see)
	if !begins(lowA, lowB) || a.End == api.EndDone && b.End == api.EndDone && len(lowA) != len(lowB) {
		t.Errorf("see %d, %v: %s, %s", see, in, brief(a), brief(b))
		return false
	}
	return true
}

// P24.4: of programs.
func TestNobodyLearns(t *testing.T) {
	r, many := random(25, 4000)
	for range many {
		s := program(r, r.Intn(2) == 0)
		_, _, xs := images(t, s)
		for _, x := range xs {
			if !learns(t, r, x) {
				t.Fatal(s)
			}
		}
	}
}

// P24.4: of images whose words were changed, and which the verifier still takes.
func TestNobodyLearnsOfImages(t *testing.T) {
	r, many := random(26, 4000)
	taken := 0
	for range many {
		s := program(r, r.Intn(2) == 0)
		_, _, xs := images(t, s)
		for _, x := range xs {
			for range 1 + r.Intn(6) {
				p := &x.Protos[r.Intn(len(x.Protos))]
				n := r.Intn(len(p.Words))
				old := p.Words[n]
				switch r.Intn(3) {
				case 0:
					p.Words[n] = p.Words[r.Intn(len(p.Words))]
				case 1:
					p.Words[n] = old&0xFFFF00FF | uint32(r.Intn(p.Regs))<<8
				case 2:
					p.Words[n] = old&0xFFFFFF00 | uint32(r.Intn(63))
				}
				if _, _, e := verify.Check(x); e != api.OK {
					p.Words[n] = old
				} else {
					taken++
				}
			}
			if !learns(t, r, x) {
				for _, p := range x.Protos {
					t.Log(code.Show(p))
				}
				t.Fatal(s)
			}
		}
	}
	t.Log(taken)
}

// P24.3: a run that a limit ends has put out the beginning.
func TestBeginnings(t *testing.T) {
	r, many := random(27, 2000)
	for range many {
		s := program(r, r.Intn(2) == 0)
		_, _, xs := images(t, s)
		for _, x := range xs {
			in := inputs(r)
			whole := run(t, x, in, tight)
			some := run(t, x, in, api.Limits{Fuel: r.Intn(200), Frames: r.Intn(10), Cells: r.Intn(40), Bytes: r.Intn(40)})
			if some.End < api.EndFuel && !vm.Same(some, whole) || !begins(whole.Events, some.Events) || len(some.Events) > len(whole.Events) {
				t.Fatalf("%s\n%s\n%s", s, brief(some), brief(whole))
			}
		}
	}
}
