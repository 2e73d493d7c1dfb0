package binary

import "ravelin/api"

// writer lays bytes one behind the other.
type writer struct{ b []byte }

// putList writes how many there are, then each.
func putList[T any](w *writer, l []T, put func(T)) {
	w.number(uint64(len(l)))
	for _, one := range l {
		put(one)
	}
}

// number writes a number in groups of 7 bits, the lowest ahead.
func (w *writer) number(n uint64) {
	for n >= 128 {
		w.b = append(w.b, byte(n)|128)
		n >>= 7
	}
	w.b = append(w.b, byte(n))
}

// int writes a number from 0 on.
func (w *writer) int(n int) { w.number(uint64(n)) }

// word writes a word.
func (w *writer) word(n uint32) { w.number(uint64(n)) }

// text writes a text.
func (w *writer) text(s string) {
	w.int(len(s))
	w.b = append(w.b, s...)
}

// kind writes a type.
func (w *writer) kind(t api.Type) {
	w.int(t.Kind)
	putList(w, t.Names, w.text)
	putList(w, t.Args, w.kind)
}

// cast writes a cast.
func (w *writer) cast(c api.Blame) {
	w.kind(c.To)
	w.int(c.Side)
	w.int(c.At)
}

// constant writes a constant.
func (w *writer) constant(v api.Value) {
	w.int(v.Kind)
	switch v.Kind {
	case api.Bool:
		w.number(uint64(v.N))
	case api.Int:
		// Those from 0 on are even, those below odd.
		w.number(uint64(v.N<<1) ^ uint64(v.N>>63))
	case api.Str:
		w.text(v.S)
	}
}

// up writes what a function takes.
func (w *writer) up(u api.Up) {
	local := 0
	if u.Local {
		local = 1
	}
	w.int(local)
	w.int(u.N)
}

// proto writes a function.
func (w *writer) proto(p api.Proto) {
	putList(w, p.Types, w.kind)
	w.int(p.Regs)
	putList(w, p.Words, w.word)
	putList(w, p.Consts, w.constant)
	putList(w, p.Ups, w.up)
	putList(w, p.Places, w.int)
}
