package instr_test

import (
	"math"
	"math/rand"
	"strings"
	"testing"

	"ravelin/api"
	"ravelin/instr"
)

// table is the chapter's.
const table = `1 const AD 2 move AB 3 init AB 4 set AB 5 cell A 6 getc AB 7 setc AB 8 getu AB 9 setu AB 11 add ABC 12 sub ABC 13 mul ABC 14 div ABC 15 mod ABC
16 lt ABC 17 le ABC 18 eq ABC 19 cat ABC 21 addi ABC 22 subi ABC 23 muli ABC 24 divi ABC 25 modi ABC 26 lti ABC 27 lei ABC 30 neg AB 31 not AB 32 len AB
34 jump D 35 brf AD 36 brt AD 37 join D 40 closure AD 41 call ABC 42 return A 43 table A 44 stamp AD 45 getf ABC 46 gets ABC 47 setf ABC 49 geti ABC 50 seti ABC
51 read AD 52 write AD 53 type AB 54 key ABC 55 pcall A 56 error A 57 create A 58 resume AB 59 yield A 60 status AB 61 cast AD 62 bound AD`

type row struct{ name, form string }

// rows is the table by number.
func rows() map[int]row {
	m := map[int]row{}
	f := strings.Fields(table)
	for n := 0; n < len(f); n += 3 {
		op := 0
		for _, d := range f[n] {
			op = op*10 + int(d-'0')
		}
		m[op] = row{f[n+1], f[n+2]}
	}
	return m
}

// P15.2
func TestFormName(t *testing.T) {
	m := rows()
	if len(m) != 54 {
		t.Fatal(len(m))
	}
	for op := -5; op < 300; op++ {
		if instr.Name(op) != m[op].name || instr.Form(op) != m[op].form {
			t.Error(op, instr.Name(op), instr.Form(op))
		}
	}
	for _, op := range []int{math.MinInt, math.MaxInt} {
		if instr.Name(op) != "" || instr.Form(op) != "" {
			t.Error(op)
		}
	}
}

// P15.1
func TestEncode(t *testing.T) {
	for _, x := range []struct {
		i api.Ins
		w uint32
	}{
		{api.Ins{Op: api.IAdd, A: 1, B: 2, C: 3}, 0x0302010B}, {api.Ins{Op: api.IJump, D: -1}, 0xFFFF0022}, {api.Ins{Op: api.IConst, A: 255, D: 32767}, 0x7FFFFF01}, {api.Ins{Op: api.IBrf, A: 7, D: -32768}, 0x80000723},
		{api.Ins{Op: api.IReturn, A: 9}, 0x0000092A}, {api.Ins{Op: api.IMove, A: 1, B: 255}, 0x00FF0102}, {api.Ins{Op: api.ICall, A: 255, B: 255, C: 255}, 0xFFFFFF29},
	} {
		if w, e := instr.Encode(x.i); w != x.w || e != api.OK {
			t.Errorf("%v: %x %d", x.i, w, e)
		}
		if i, e := instr.Decode(x.w); i != x.i || e != api.OK {
			t.Errorf("%x: %v %d", x.w, i, e)
		}
	}
	for _, i := range []api.Ins{
		{}, {Op: 10}, {Op: 33}, {Op: 48}, {Op: 63}, {Op: -1}, {Op: 256 + 11}, {Op: api.IAdd, A: 256}, {Op: api.IAdd, A: -1}, {Op: api.IAdd, B: 256}, {Op: api.IAdd, C: -1}, {Op: api.IAdd, D: 1}, {Op: api.IMove, C: 1}, {Op: api.IMove, D: 1},
		{Op: api.IJump, A: 1}, {Op: api.IJump, D: 32768}, {Op: api.IJump, D: -32769}, {Op: api.IConst, B: 1}, {Op: api.IConst, C: 1}, {Op: api.IReturn, B: 1}, {Op: api.IReturn, D: 1}, {Op: api.IConst, A: math.MaxInt}, {Op: api.IConst, D: math.MinInt},
	} {
		if w, e := instr.Encode(i); w != 0 || e != api.ErrRange {
			t.Error(i, w, e)
		}
		if instr.Show(i) != "?" {
			t.Error(i, instr.Show(i))
		}
	}
	for _, w := range []uint32{0, 10, 33, 48, 63, 255, 0x01000102, 0x00000122, 0x00010005, 0xFFFFFFFF} {
		if i, e := instr.Decode(w); i != (api.Ins{}) || e != api.ErrRange {
			t.Errorf("%x %v %d", w, i, e)
		}
	}
}

// P15.3
func TestShow(t *testing.T) {
	for want, i := range map[string]api.Ins{"add 1 2 3": {Op: api.IAdd, A: 1, B: 2, C: 3}, "jump -1": {Op: api.IJump, D: -1}, "const 0 12": {Op: api.IConst, D: 12}, "return 0": {Op: api.IReturn}, "move 255 0": {Op: api.IMove, A: 255}, "join -1": {Op: api.IJoin, D: -1}} {
		if got := instr.Show(i); got != want {
			t.Error(got, want)
		}
	}
}

// P15.4
func TestThereAndBack(t *testing.T) {
	r := rand.New(rand.NewSource(15))
	taken := 0
	for range 200000 {
		w := r.Uint32()
		if r.Intn(2) == 0 {
			w &= 0xFFFF
		}
		i, e := instr.Decode(w)
		if e != api.OK {
			continue
		}
		taken++
		if back, e := instr.Encode(i); back != w || e != api.OK {
			t.Errorf("%x %v %x", w, i, back)
		}
	}
	if taken < 1000 {
		t.Error(taken)
	}
	for op, x := range rows() {
		i := api.Ins{Op: op}
		for n, f := range x.form {
			switch f {
			case 'A':
				i.A = 200 + n
			case 'B':
				i.B = 210
			case 'C':
				i.C = 220
			case 'D':
				i.D = -300
			}
		}
		w, e := instr.Encode(i)
		if back, e2 := instr.Decode(w); back != i || e != api.OK || e2 != api.OK {
			t.Error(i, back)
		}
	}
}
