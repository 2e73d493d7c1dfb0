package verify_test

import (
	"testing"

	"ravelin/api"
	"ravelin/instr"
	"ravelin/verify"
)

func proto(l ...api.Ins) api.Proto {
	p := api.Proto{Types: []api.Type{{}}, Regs: 8, Places: make([]int, len(l)), Consts: []api.Value{{}}}
	for _, i := range l {
		w, e := instr.Encode(i)
		if e != api.OK {
			panic(i)
		}
		p.Words = append(p.Words, w)
	}
	return p
}

func brf(d int) api.Ins  { return api.Ins{Op: api.IBrf, D: d} }
func brt(d int) api.Ins  { return api.Ins{Op: api.IBrt, D: d} }
func jump(d int) api.Ins { return api.Ins{Op: api.IJump, D: d} }
func join(d int) api.Ins { return api.Ins{Op: api.IJoin, D: d} }

var (
	set = api.Ins{Op: api.IConst}
	ret = api.Ins{Op: api.IReturn}
)

func check(t *testing.T, x api.Image, fn, word int, e api.Errno) {
	t.Helper()
	if f, w, err := verify.Check(x); f != fn || w != word || err != e {
		t.Errorf("%d %d %d, not %d %d %d", f, w, err, fn, word, e)
	}
}

// P19.1
func TestCheck(t *testing.T) {
	one := func(l ...api.Ins) api.Image { return api.Image{Protos: []api.Proto{proto(l...)}} }
	check(t, api.Image{}, 0, 0, api.ErrCode)
	check(t, one(set), 0, 0, api.ErrCode)
	check(t, one(ret), 0, 0, api.OK)
	check(t, one(brf(4), join(4), set, jump(4), ret), 0, 0, api.OK)
	check(t, one(brt(4), join(4), set, jump(4), ret), 0, 0, api.OK)
	for _, d := range []int{-1, 0, 2, 3} {
		check(t, one(brf(4), join(d), set, jump(4), ret), 0, 0, api.ErrJoin)
		check(t, one(set, brt(5), join(d), set, jump(5), ret), 0, 1, api.ErrJoin)
	}
	check(t, one(brf(4), join(-1), set, ret, ret), 0, 0, api.OK)
	check(t, one(brf(4), join(4), set, ret, ret), 0, 0, api.ErrJoin)
	check(t, one(jump(3), brf(0), join(0), ret), 0, 0, api.OK)
	check(t, one(brf(4), join(4), jump(0), ret, ret), 0, 0, api.OK)
	check(t, one(brf(2), join(2), jump(2)), 0, 0, api.ErrJoin)
	check(t, one(brf(2), join(-1), jump(2)), 0, 0, api.OK)
	check(t, one(brf(0), join(2), ret), 0, 0, api.OK)
	x := one(ret)
	good, bad := proto(brf(3), join(3), set, ret), proto(set, brf(4), join(0), set, brf(7), join(0), set, ret)
	x.Protos = append(x.Protos, good, bad, proto(brf(0), join(0), ret))
	check(t, x, 2, 1, api.ErrJoin)
	x.Protos[3].Words[0] = 0
	check(t, x, 3, 0, api.ErrCode)
}
