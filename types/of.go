package types

import (
	"cmp"
	"slices"

	"ravelin/api"
	"ravelin/lex"
)

// wrong is a node that tells no type.
type wrong struct {
	node int
	e    api.Errno
}

// reader asks nodes for their types; asked is how many were.
type reader struct {
	l     []api.Node
	root  int
	asked int
}

// Of tells the type that a node of a list writes; or the node that tells none, and why.
func Of(l []api.Node, n int) (t api.Type, at int, e api.Errno) {
	defer func() {
		if r := recover(); r != nil {
			w, known := r.(wrong)
			if !known {
				panic(r)
			}
			t, at, e = api.Type{}, w.node, w.e
		}
	}()
	r := reader{l: l, root: n}
	t = r.ask(n)
	r.must(Check(t), n, api.ErrLong)
	return t, 0, api.OK
}

// must ends the asking at a node, if something isn't so.
func (r *reader) must(is bool, n int, e api.Errno) {
	if !is {
		panic(wrong{n, e})
	}
}

// ask tells a node's type.
func (r *reader) ask(n int) api.Type {
	r.asked++
	r.must(r.asked <= most, r.root, api.ErrLong)
	r.must(n >= 0 && n < len(r.l), n, api.ErrType)
	node := r.l[n]
	switch node.Kind {
	case api.NNone:
		r.kids(n, 0, len(node.Kids))
		return api.Type{}
	case api.NTName:
		kind := named(node.Text)
		r.must(kind >= 0, n, api.ErrType)
		r.kids(n, 0, 0)
		return api.Type{Kind: kind}
	case api.NTBound:
		r.kids(n, 1, 1)
		return r.ask(node.Kids[0])
	case api.NTFunc:
		r.kids(n, 1, len(node.Kids))
		t := api.Type{Kind: api.TFunc}
		for _, k := range node.Kids {
			t.Args = append(t.Args, r.ask(k))
		}
		return t
	case api.NTUnion:
		r.kids(n, 1, len(node.Kids))
		return r.union(node.Kids)
	case api.NTShape:
		r.kids(n, 0, len(node.Kids))
		return r.shape(node.Kids)
	}
	panic(wrong{n, api.ErrType})
}

// named tells which type without parts has a name, -1 if none has.
func named(text string) int {
	for kind, name := range names {
		if name == text {
			return kind
		}
	}
	return -1
}

// kids looks at how many kids a node has, and whether they stand ahead of it.
func (r *reader) kids(n, least, most int) {
	l := r.l[n].Kids
	r.must(len(l) >= least && len(l) <= most, n, api.ErrType)
	for _, k := range l {
		r.must(k >= 0 && k < n, n, api.ErrType)
	}
}

// union tells the type of just these members.
func (r *reader) union(l []int) api.Type {
	bits, open := 0, false
	for _, k := range l {
		kind := r.l[k].Kind
		r.must(kind == api.NTName || kind == api.NTUnion, k, api.ErrType)
		t := r.ask(k)
		bits |= Kinds(t)
		open = open || t.Kind == api.TAny
	}
	if open {
		return api.Type{}
	}
	return gather(bits)
}

// field is a field of a shape.
type field struct {
	name string
	t    api.Type
}

// shape tells the type of these fields, by name.
func (r *reader) shape(l []int) api.Type {
	var fields []field
	seen := map[string]int{}
	for _, k := range l {
		node := r.l[k]
		r.must(node.Kind == api.NTField && lex.Name(node.Text), k, api.ErrType)
		r.kids(k, 1, 1)
		t := r.ask(node.Kids[0])
		_, is := seen[node.Text]
		r.must(!composite(t) && !is, k, api.ErrType)
		seen[node.Text] = k
		fields = append(fields, field{node.Text, t})
	}
	slices.SortFunc(fields, func(a, b field) int { return cmp.Compare(a.name, b.name) })
	t := api.Type{Kind: api.TShape}
	for _, f := range fields {
		t.Names = append(t.Names, f.name)
		t.Args = append(t.Args, f.t)
	}
	return t
}
