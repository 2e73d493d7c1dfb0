package whole

import (
	"slices"
	"strconv"

	"ravelin/api"
	"ravelin/guard"
	"ravelin/heap"
	"ravelin/label"
	"ravelin/num"
	"ravelin/types"
	"ravelin/value"
	"ravelin/world"
)

// oracle does what 24.1 to 24.3 say of a tree, straight on its nodes, without limits.
type oracle struct {
	l       []api.Node
	e       api.Elab
	heap    *heap.Heap
	world   *world.World
	casts   map[int]int
	loose   map[int]bool
	next    map[int][]int
	fns     map[int64]closure
	threads []*fiber
	now     *fiber
	refused bool // whether a new table refused its stamps
}

type closure struct {
	node int
	env  *env
}

type env struct {
	vars map[int]*api.Value
	up   *env
}

func (s *env) find(v int) *api.Value {
	for ; s != nil; s = s.up {
		if p := s.vars[v]; p != nil {
			return p
		}
	}
	panic("no variable")
}

// act is a call that goes on.
type act struct {
	*guard.Guard
	answer api.Value
}

type fiber struct {
	n       int
	label   api.Label
	fn      api.Value
	status  string
	resumer *fiber
	in      chan api.Value
	out     chan told
}

// told is how a fiber leaves: by yield or answer, by an error, by the end of the run.
type told struct {
	v    api.Value
	err  *fault
	end  *api.Result
	dead bool
}

type fault struct{ v api.Value }

const finish = -1

func newOracle(l []api.Node, e api.Elab, masks [8]api.Label, in api.Inputs) *oracle {
	o := &oracle{l: l, e: e, heap: heap.New(1 << 40), world: world.New(masks, in), casts: map[int]int{}, loose: map[int]bool{}, next: map[int][]int{}, fns: map[int64]closure{}}
	for n, c := range e.Casts {
		o.casts[c.Node] = n
	}
	for _, n := range e.Loose {
		o.loose[n] = true
	}
	return o
}

// run does the program.
func (o *oracle) run() (r api.Result) {
	defer func() {
		switch x := recover().(type) {
		case nil:
		case api.Result:
			r = x
		case fault:
			r = api.Result{End: api.EndError, Value: clean(x.v)}
		default:
			panic(x)
		}
		r.Events, r.Places = o.world.Events(), o.world.Places()
	}()
	kids := o.l[len(o.l)-1].Kids
	a := &act{Guard: guard.New(0)}
	o.body(a, kids[len(kids)-1], len(o.l)-1, &env{vars: map[int]*api.Value{}})
	return api.Result{Value: clean(a.answer)}
}

func clean(v api.Value) api.Value {
	c := api.Value{Kind: v.Kind}
	if v.Kind == api.Bool || v.Kind == api.Int {
		c.N = v.N
	}
	if v.Kind == api.Str {
		c.S = v.S
	}
	return c
}

func (o *oracle) stop(n int) { panic(api.Result{End: api.EndStop, At: o.l[n].At}) }

func (o *oracle) err(a *act, text string, l ...api.Label) {
	panic(fault{value.With(api.Value{Kind: api.Str, S: text, Label: a.Pc()}, l...)})
}

// body does a function's block; n stands for the place at its end.
func (o *oracle) body(a *act, block, n int, s *env) {
	o.ways(block, n, finish)
	o.next[n] = []int{finish}
	if o.block(a, block, s) != 2 {
		a.At(n)
		a.answer = api.Value{Label: a.Pc()}
	}
}

// ways notes where statements lead, and tells where a block begins.
func (o *oracle) ways(block, next, loop int) int {
	kids := o.l[block].Kids
	for at := len(kids) - 1; at >= 0; at-- {
		n := kids[at]
		k := o.l[n].Kids
		switch o.l[n].Kind {
		case api.NReturn:
			o.next[n] = []int{finish}
		case api.NBreak:
			o.next[n] = []int{loop}
		case api.NIf:
			other := next
			if o.l[k[2]].Kind == api.NBlock {
				other = o.ways(k[2], next, loop)
			}
			o.next[n] = []int{o.ways(k[1], next, loop), other}
		case api.NWhile:
			o.next[n] = []int{o.ways(k[1], n, next), next}
		default:
			o.next[n] = []int{next}
		}
		next = n
	}
	return next
}

// ends tells whether a way leads from some places to the end of the call without going through one.
func (o *oracle) ends(from []int, without int) bool {
	seen := map[int]bool{}
	for len(from) > 0 {
		n := from[0]
		from = from[1:]
		if n == finish {
			return true
		}
		if n == without || seen[n] {
			continue
		}
		seen[n] = true
		from = append(from, o.next[n]...)
	}
	return false
}

// post tells the nearest place that lies on each way from a condition to the end of the call.
func (o *oracle) post(n int) int {
	seen := map[int]bool{n: true}
	for from := slices.Clone(o.next[n]); len(from) > 0; from = from[1:] {
		p := from[0]
		if p == finish || seen[p] {
			continue
		}
		seen[p] = true
		// Ways are gone through in width, so a place that lies on all of them and is found first is the nearest.
		if !o.ends(o.next[n], p) && o.nearest(n, p) {
			return p
		}
		from = append(from, o.next[p]...)
	}
	return -1
}

// nearest tells whether no other such place lies between n and p.
func (o *oracle) nearest(n, p int) bool {
	for q := range o.next {
		if q != p && q != n && !o.ends(o.next[n], q) && o.ends(o.next[p], q) {
			return false
		}
	}
	return true
}

// block does statements: 0 falls out of them, 1 breaks, 2 returns.
func (o *oracle) block(a *act, block int, up *env) int {
	s := &env{vars: map[int]*api.Value{}, up: up}
	for _, n := range o.l[block].Kids {
		a.At(n)
		if how := o.statement(a, n, s); how != 0 {
			return how
		}
	}
	return 0
}

func (o *oracle) statement(a *act, n int, s *env) int {
	k := o.l[n].Kids
	switch o.l[n].Kind {
	case api.NLocal:
		v := o.maybe(a, k[1], s)
		o.fresh(a, n, k[0], v, s)
	case api.NFunction:
		o.fresh(a, n, k[0], api.Value{}, s)
		*s.find(o.e.Scope.Uses[n]) = value.With(o.eval(a, k[0], s), a.Pc())
	case api.NAssign:
		o.assign(a, n, s)
	case api.NDo:
		o.eval(a, k[0], s)
	case api.NIf:
		c := o.eval(a, k[0], s)
		a.Branch(c.Label, o.post(n), 0)
		if value.Truth(c) {
			return o.block(a, k[1], s)
		} else if o.l[k[2]].Kind == api.NBlock {
			return o.block(a, k[2], s)
		}
	case api.NWhile:
		for {
			a.At(n)
			c := o.eval(a, k[0], s)
			a.Branch(c.Label, o.post(n), 0)
			if !value.Truth(c) {
				return 0
			}
			if how := o.block(a, k[1], s); how == 2 {
				return 2
			} else if how == 1 {
				return 0
			}
		}
	case api.NReturn:
		v := o.maybe(a, k[0], s)
		a.answer = value.With(v, a.Pc())
		return 2
	case api.NBreak:
		return 1
	}
	return 0
}

func (o *oracle) maybe(a *act, n int, s *env) api.Value {
	if o.l[n].Kind == api.NNone {
		return api.Value{}
	}
	return o.eval(a, n, s)
}

// fresh makes a variable.
func (o *oracle) fresh(a *act, n, bound int, v api.Value, s *env) {
	v = value.With(v, a.Pc())
	if o.l[bound].Kind == api.NTBound {
		mask, _ := strconv.ParseInt(o.l[bound].Text, 10, 64)
		if !label.Flows(v.Label, api.Label(mask)) {
			o.stop(bound)
		}
	}
	s.vars[o.e.Scope.Uses[n]] = &v
}

func (o *oracle) assign(a *act, n int, s *env) {
	place := o.l[n].Kids[0]
	if o.l[place].Kind == api.NName {
		v := o.eval(a, o.l[n].Kids[1], s)
		p := s.find(o.e.Scope.Uses[place])
		if !label.Flows(a.Pc(), p.Label) {
			o.stop(n)
		}
		*p = value.With(v, a.Pc())
		return
	}
	base := o.eval(a, o.l[place].Kids[0], s)
	key := api.Value{Kind: api.Str, S: o.l[place].Text}
	if o.l[place].Kind == api.NIndex {
		key = o.eval(a, o.l[place].Kids[1], s)
	}
	v := o.eval(a, o.l[n].Kids[1], s)
	t := o.heap.Of(base)
	if t == nil {
		o.err(a, "index", base.Label, key.Label)
	}
	switch t.Put(label.Join(a.Pc(), base.Label), key, v) {
	case api.ErrKey:
		o.err(a, "key", base.Label, key.Label)
	case api.ErrFlow:
		o.stop(n)
	case api.ErrStamp:
		panic(api.Result{End: api.EndBlame, At: o.l[n].At, Side: 1})
	}
}

// cast does a cast, or one of a loose use at a node (by a number below 0).
func (o *oracle) cast(v api.Value, to api.Type, c int) api.Value {
	v, can, _ := o.heap.Cast(v, to, c)
	if !can && c < 0 {
		panic(api.Result{End: api.EndBlame, At: o.l[-1-c].At, Side: 1})
	} else if !can {
		panic(api.Result{End: api.EndBlame, At: o.l[o.e.Casts[c].Node].At, Side: o.e.Casts[c].Side})
	}
	return v
}

func (o *oracle) eval(a *act, n int, s *env) api.Value {
	v := o.value(a, n, s)
	if c, is := o.casts[n]; is {
		v = o.cast(v, o.e.Casts[c].To, c)
	}
	return v
}

func (o *oracle) value(a *act, n int, s *env) api.Value {
	node := o.l[n]
	k := node.Kids
	switch node.Kind {
	case api.NBool:
		return boolean(node.Text == "true")
	case api.NInt:
		v, _ := num.Number(node.Text)
		return api.Value{Kind: api.Int, N: v}
	case api.NStr:
		return api.Value{Kind: api.Str, S: node.Text}
	case api.NName:
		return *s.find(o.e.Scope.Uses[n])
	case api.NFunc:
		v, _ := o.heap.Closure(n, nil)
		o.fns[v.N] = closure{n, s}
		return v
	case api.NField, api.NIndex:
		base := o.eval(a, k[0], s)
		key := api.Value{Kind: api.Str, S: node.Text}
		if node.Kind == api.NIndex {
			key = o.eval(a, k[1], s)
		}
		t := o.heap.Of(base)
		if t == nil {
			o.err(a, "index", base.Label, key.Label)
		}
		return value.With(t.Get(key), base.Label)
	case api.NCall:
		f := o.eval(a, k[0], s)
		var args []api.Value
		for _, m := range k[1:] {
			args = append(args, o.eval(a, m, s))
		}
		return o.call(a, f, args, o.loose[n], n, label.Join(a.Pc(), f.Label))
	case api.NBuiltin:
		return o.builtin(a, n, s)
	case api.NTable:
		return o.table(a, n, s)
	case api.NBin:
		return o.binary(a, node, o.eval(a, k[0], s), func() api.Value { return o.eval(a, k[1], s) })
	case api.NUn:
		return o.unary(a, node.Text, o.eval(a, k[0], s))
	case api.NAnd, api.NOr:
		left := o.eval(a, k[0], s)
		if value.Truth(left) == (node.Kind == api.NOr) {
			return left
		}
		// A region that ends behind the expression.
		was := a.Guard
		a.Guard = guard.New(label.Join(was.Pc(), left.Label))
		right := o.eval(a, k[1], s)
		right = value.With(right, a.Pc())
		a.Guard = was
		return right
	}
	return api.Value{}
}

func boolean(is bool) api.Value {
	if is {
		return api.Value{Kind: api.Bool, N: 1}
	}
	return api.Value{Kind: api.Bool}
}

func (o *oracle) binary(a *act, node api.Node, left api.Value, more func() api.Value) api.Value {
	right := more()
	op := map[string]int{"+": 1, "-": 2, "*": 3, "//": 4, "%": 5, "<": 6, "<=": 7, ">": 6, ">=": 7, "..": 9}[node.Text]
	if node.Text == ">" || node.Text == ">=" {
		left, right = right, left
	}
	if op == 0 {
		is := value.With(boolean(o.heap.Equal(left, right)), left.Label, right.Label)
		if node.Text == "~=" {
			is = value.Not(is)
		}
		return is
	}
	v, why := value.Do(op, left, right)
	if why != "" {
		o.err(a, why, left.Label, right.Label)
	}
	return v
}

func (o *oracle) unary(a *act, op string, v api.Value) api.Value {
	switch op {
	case "not":
		return value.Not(v)
	case "-":
		n, why := value.Neg(v)
		if why != "" {
			o.err(a, why, v.Label)
		}
		return n
	}
	if v.Kind == api.Str {
		return api.Value{Kind: api.Int, N: int64(len(v.S)), Label: v.Label}
	}
	t := o.heap.Of(v)
	if t == nil {
		o.err(a, "length", v.Label)
	}
	return api.Value{Kind: api.Int, N: int64(t.Len()), Label: label.Join(v.Label, t.Label())}
}

func (o *oracle) table(a *act, n int, s *env) api.Value {
	t, _ := o.heap.Table(a.Pc())
	items := int64(0)
	for _, k := range o.l[n].Kids {
		key := api.Value{Kind: api.Str, S: o.l[k].Text}
		if o.l[k].Kind == api.NItem {
			items++
			key = api.Value{Kind: api.Int, N: items}
		}
		if o.heap.Of(t).Put(a.Pc(), key, o.eval(a, o.l[k].Kids[0], s)) != api.OK {
			panic("a new table refuses")
		}
	}
	o.stamp(n, t)
	return t
}

func (o *oracle) stamp(n int, t api.Value) {
	if o.e.Types[n].Kind == api.TShape && !o.heap.Of(t).Stamp(types.Stamps(o.e.Types[n])) {
		o.refused = true
	}
}

// params tells the types of a function's parameters, and its answer's.
func (o *oracle) params(f api.Value) []api.Type {
	fn, _ := o.heap.Fn(f)
	if fn.Wraps {
		return fn.To.Args
	}
	kids := o.l[fn.Proto].Kids
	var l []api.Type
	for _, k := range kids[:len(kids)-2] {
		l = append(l, o.e.Vars[o.e.Scope.Uses[k]])
	}
	return append(l, api.Type{})
}

func (o *oracle) fitted(args []api.Value, f api.Value, c int) []api.Value {
	l := o.params(f)
	args = slices.Concat(args, make([]api.Value, len(l)))[:len(l)-1]
	for n := range args {
		args[n] = o.cast(args[n], l[n], c)
	}
	return args
}

// call calls a function, with a label of its own.
func (o *oracle) call(a *act, f api.Value, args []api.Value, loose bool, n int, pc api.Label) api.Value {
	fn, is := o.heap.Fn(f)
	if !is {
		o.err(a, "call", f.Label)
	}
	if loose {
		args = o.fitted(args, f, -1-n)
	}
	if fn.Wraps {
		many := len(fn.To.Args) - 1
		args = slices.Concat(args, make([]api.Value, many))[:many]
		v := o.call(a, fn.Inner, o.fitted(args, fn.Inner, fn.Cast), false, n, pc)
		return o.cast(v, fn.To.Args[many], fn.Cast)
	}
	c := o.fns[f.N]
	if b := o.heap.Base(f); b.N != f.N {
		panic("a wrapper")
	}
	kids := o.l[c.node].Kids
	params := kids[:len(kids)-2]
	args = slices.Concat(args, make([]api.Value, len(params)))
	callee := &act{Guard: guard.New(pc)}
	s := &env{vars: map[int]*api.Value{}, up: c.env}
	for at, k := range params {
		o.fresh(callee, k, o.l[k].Kids[0], args[at], s)
	}
	o.body(callee, kids[len(kids)-1], c.node, s)
	return callee.answer
}

// outcome is the table of how a call ended.
func (o *oracle) outcome(a *act, n int, ok bool, v api.Value, l ...api.Label) api.Value {
	t, _ := o.heap.Table(a.Pc())
	o.heap.Of(t).Put(a.Pc(), api.Value{Kind: api.Str, S: "ok"}, value.With(boolean(ok), l...))
	o.heap.Of(t).Put(a.Pc(), api.Value{Kind: api.Str, S: "value"}, value.With(v, l...))
	o.stamp(n, t)
	return t
}

func (o *oracle) builtin(a *act, n int, s *env) api.Value {
	node := o.l[n]
	var v []api.Value
	for _, k := range node.Kids {
		v = append(v, o.eval(a, k, s))
	}
	switch node.Text {
	case "read":
		x, e := o.world.Read(a.Pc(), int(v[0].N))
		if e != api.OK {
			o.stop(n)
		}
		return x
	case "write":
		if o.world.Write(a.Pc(), int(v[0].N), v[1]) != api.OK {
			o.stop(n)
		}
		return api.Value{}
	case "type":
		return api.Value{Kind: api.Str, S: value.Type(v[0]), Label: v[0].Label}
	case "error":
		panic(fault{value.With(v[0], a.Pc())})
	case "key":
		t := o.heap.Of(v[0])
		if t == nil {
			o.err(a, "index", v[0].Label, v[1].Label)
		}
		var k api.Value
		if v[1].Kind == api.Int {
			k, _ = t.Key(v[1].N)
		}
		return value.With(k, v[0].Label, v[1].Label, t.Label())
	case "pcall":
		return o.pcall(a, n, v[0])
	}
	return o.fiber(a, n, v)
}

func (o *oracle) pcall(a *act, n int, f api.Value) (t api.Value) {
	var failed *fault
	v := func() (v api.Value) {
		defer func() {
			r := recover()
			if x, is := r.(fault); is {
				failed = &x
			} else if r != nil {
				panic(r)
			}
		}()
		return o.call(a, f, nil, true, n, label.Join(a.Pc(), f.Label))
	}()
	if failed == nil {
		return o.outcome(a, n, true, v)
	}
	if !label.Flows(failed.v.Label, a.Pc()) {
		o.stop(n)
	}
	return o.outcome(a, n, false, failed.v)
}

func (o *oracle) find(a *act, v api.Value) *fiber {
	if v.Kind != api.Thread {
		o.err(a, "index", v.Label)
	}
	return o.threads[v.N]
}

func (o *oracle) fiber(a *act, n int, v []api.Value) api.Value {
	switch o.l[n].Text {
	case "create":
		if _, is := o.heap.Fn(v[0]); !is {
			o.err(a, "call", v[0].Label)
		}
		f := &fiber{n: len(o.threads), label: label.Join(a.Pc(), v[0].Label), fn: v[0], status: "suspended"}
		o.threads = append(o.threads, f)
		return api.Value{Kind: api.Thread, N: int64(f.n)}
	case "status":
		f := o.find(a, v[0])
		return value.With(api.Value{Kind: api.Str, S: f.status}, v[0].Label, f.label)
	case "yield":
		f := o.now
		if f == nil {
			o.err(a, "yield")
		}
		if !label.Flows(a.Pc(), f.label) {
			o.stop(n)
		}
		f.out <- told{v: value.With(v[0], a.Pc())}
		return value.With(<-f.in, f.label)
	}
	f := o.find(a, v[0])
	c := label.Join(a.Pc(), v[0].Label)
	if !label.Flows(c, f.label) {
		o.stop(n)
	}
	if f.status != "suspended" {
		o.err(a, "resume", c, f.label)
	}
	if o.now != nil {
		o.now.status = "normal"
	}
	f.resumer, o.now, f.status = o.now, f, "running"
	if f.in == nil {
		f.in, f.out = make(chan api.Value), make(chan told)
		go o.start(f, n)
	}
	f.in <- v[1]
	x := <-f.out
	if x.end != nil {
		panic(*x.end)
	}
	o.now = f.resumer
	if o.now != nil {
		o.now.status = "running"
	}
	f.status = "suspended"
	if x.dead {
		f.status = "dead"
	}
	if x.err == nil {
		return o.outcome(a, n, true, x.v, c, f.label)
	}
	if !label.Flows(x.err.v.Label, a.Pc()) {
		o.stop(n)
	}
	return o.outcome(a, n, false, x.err.v, c, f.label)
}

// start is a fiber's goroutine.
func (o *oracle) start(f *fiber, n int) {
	defer func() {
		switch x := recover().(type) {
		case nil:
		case fault:
			f.out <- told{err: &x, dead: true}
		case api.Result:
			f.out <- told{end: &x}
		default:
			panic(x)
		}
	}()
	v := value.With(<-f.in, f.label)
	a := &act{Guard: guard.New(f.label)}
	answer := o.call(a, f.fn, []api.Value{v}, true, n, f.label)
	f.out <- told{v: answer, dead: true}
}
