package binary

import (
	"strings"

	"ravelin/api"
)

// wrong says that bytes are no file.
type wrong struct{}

// must ends the reading, if something isn't so.
func must(is bool) {
	if !is {
		panic(wrong{})
	}
}

// reader takes bytes from the front; deep is how many types it is within.
type reader struct {
	b    []byte
	deep int
}

// getList reads how many there are, then each.
func getList[T any](r *reader, get func() T) []T {
	many := r.int()
	must(many <= len(r.b))
	var l []T
	for range many {
		l = append(l, get())
	}
	return l
}

// byte takes a byte.
func (r *reader) byte() byte {
	must(len(r.b) > 0)
	first := r.b[0]
	r.b = r.b[1:]
	return first
}

// number reads a number in its least form.
func (r *reader) number() uint64 {
	var n uint64
	for group := range 10 {
		c := r.byte()
		// Of the tenth group just one bit is below 2^64.
		must(group < 9 || c <= 1)
		n |= uint64(c&127) << (7 * group)
		if c < 128 {
			must(c > 0 || group == 0)
			return n
		}
	}
	panic(wrong{})
}

// int reads a number that isn't too large.
func (r *reader) int() int {
	n := r.number()
	must(n <= largest)
	return int(n)
}

// word reads a word.
func (r *reader) word() uint32 {
	n := r.number()
	must(n < 1<<32)
	return uint32(n)
}

// text reads a text.
func (r *reader) text() string {
	return string(getList(r, r.byte))
}

// kind reads a type.
func (r *reader) kind() api.Type {
	r.deep++
	must(r.deep <= deepest)
	t := api.Type{Kind: r.int()}
	t.Names = getList(r, r.text)
	t.Args = getList(r, r.kind)
	r.deep--
	return t
}

// cast reads a cast.
func (r *reader) cast() api.Blame {
	c := api.Blame{To: r.kind()}
	c.Side = r.int()
	c.At = r.int()
	return c
}

// constant reads a constant.
func (r *reader) constant() api.Value {
	v := api.Value{Kind: r.int()}
	switch v.Kind {
	case api.Nil:
	case api.Bool:
		v.N = int64(r.int())
	case api.Int:
		n := r.number()
		v.N = int64(n>>1) ^ -int64(n&1)
	case api.Str:
		v.S = r.text()
	default:
		panic(wrong{})
	}
	return v
}

// up reads what a function takes.
func (r *reader) up() api.Up {
	local := r.int()
	must(local <= 1)
	return api.Up{Local: local == 1, N: r.int()}
}

// proto reads a function.
func (r *reader) proto() api.Proto {
	p := api.Proto{Types: getList(r, r.kind)}
	p.Regs = r.int()
	p.Words = getList(r, r.word)
	p.Consts = getList(r, r.constant)
	p.Ups = getList(r, r.up)
	p.Places = getList(r, r.int)
	return p
}

// image reads all of a file.
func (r *reader) image() api.Image {
	must(strings.HasPrefix(string(r.b[:min(len(r.b), len(head))]), head))
	r.b = r.b[len(head):]
	var x api.Image
	for n := range x.Masks {
		x.Masks[n] = api.Label(r.number())
	}
	x.Casts = getList(r, r.cast)
	x.Shapes = getList(r, r.kind)
	x.Protos = getList(r, r.proto)
	must(len(r.b) == 0)
	return x
}
