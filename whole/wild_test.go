package whole

import (
	"math/rand"
	"testing"

	"ravelin/api"
	"ravelin/flow"
	"ravelin/instr"
	"ravelin/verify"
)

// wild makes a function of random words, whose joins stand where ways meet.
func wild(r *rand.Rand, fn, fns int) api.Proto {
	p := api.Proto{Types: []api.Type{{}}, Regs: 6, Consts: []api.Value{{Kind: api.Int, N: 1}, {Kind: api.Str, S: "a"}, {}, {Kind: api.Bool, N: 1}, {Kind: api.Int}}}
	if fn > 0 {
		p.Types = append(p.Types, make([]api.Type, r.Intn(2))...)
		for range r.Intn(3) {
			p.Ups = append(p.Ups, api.Up{Local: fn == 1 || r.Intn(2) == 0, N: r.Intn(3)})
		}
	}
	many := 6 + r.Intn(25)
	var l []api.Ins
	for len(l) < many {
		i := wildWord(r, len(l), many, fns)
		l = append(l, i)
		if i.Op == api.IBrf || i.Op == api.IBrt {
			l = append(l, api.Ins{Op: api.IJoin, D: -1})
		}
	}
	l = append(l, api.Ins{Op: api.IReturn})
	for _, i := range l {
		if (i.Op == api.IJump || i.Op == api.IBrf || i.Op == api.IBrt) && l[i.D].Op == api.IJoin {
			i.D++
		}
		w, _ := instr.Encode(i)
		p.Words, p.Places = append(p.Words, w), append(p.Places, len(p.Places))
	}
	for n, post := range flow.Posts(p) {
		if l[n].Op == api.IBrf || l[n].Op == api.IBrt {
			p.Words[n+1], _ = instr.Encode(api.Ins{Op: api.IJoin, D: post})
		}
	}
	return p
}

// wildWord makes a random word; those that branch, read and write come more often than others.
func wildWord(r *rand.Rand, at, many, fns int) api.Ins {
	ops := []int{1, 2, 3, 4, 5, 6, 7, 8, 9, 11, 16, 18, 18, 21, 31, 34, 35, 35, 35, 36, 36, 40, 40, 41, 41, 42, 43, 44, 45, 46, 47, 49, 50, 51, 51, 51, 52, 52, 52, 52, 53, 54, 55, 56, 57, 58, 59, 60, 61, 62}
	i := api.Ins{Op: ops[r.Intn(len(ops))]}
	for _, letter := range instr.Form(i.Op) {
		switch letter {
		case 'A':
			i.A = r.Intn(4)
		case 'B':
			i.B = r.Intn(4)
		case 'C':
			i.C = r.Intn(4)
		}
	}
	switch i.Op {
	case api.IConst:
		i.D = r.Intn(5)
	case api.IRead, api.IWrite:
		i.D = r.Intn(3)
	case api.IClosure:
		i.D = r.Intn(fns)
	case api.ICast:
		i.D = r.Intn(2)
	case api.IGetf, api.IGets:
		i.C = 1
	case api.ISetf:
		i.B = 1
	case api.ICall:
		i.A, i.B, i.C = r.Intn(3), r.Intn(3), r.Intn(2)
	case api.IJump:
		i.D = r.Intn(many)
	case api.IBrf, api.IBrt:
		i.D = r.Intn(many)
		if r.Intn(2) == 0 {
			i.D = min(many-1, at+2+r.Intn(5))
		}
	}
	return i
}

// P24.4: of images that no program comes to.
func TestNobodyLearnsOfWildImages(t *testing.T) {
	r, many := random(34, 12000)
	taken := 0
	for range many {
		x := api.Image{
			Masks:  [8]api.Label{0, 1, 3},
			Casts:  []api.Blame{{To: api.Type{Kind: api.TInt}, Side: 1, At: 3}, {To: api.Type{Kind: api.TFunc, Args: []api.Type{{}, {}}}, Side: 2, At: 4}},
			Shapes: []api.Type{{Kind: api.TShape, Names: []string{"a"}, Args: []api.Type{{}}}},
		}
		fns := 1 + r.Intn(3)
		for fn := range fns {
			x.Protos = append(x.Protos, wild(r, fn, fns))
		}
		if _, _, e := verify.Check(x); e != api.OK {
			continue
		}
		taken++
		for range 5 {
			if !learns(t, r, x) {
				t.FailNow()
			}
		}
	}
	if taken < 1000 {
		t.Error(taken)
	}
}
