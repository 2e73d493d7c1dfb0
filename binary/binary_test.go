package binary_test

import (
	"bytes"
	"math"
	"math/rand"
	"slices"
	"testing"

	"ravelin/api"
	"ravelin/binary"
	"ravelin/code"
	"ravelin/instr"
)

func word(i api.Ins) uint32 {
	w, e := instr.Encode(i)
	if e != api.OK {
		panic(i)
	}
	return w
}

// least is an image of one function that answers.
func least() api.Image {
	return api.Image{Protos: []api.Proto{{Types: []api.Type{{Kind: api.TInt}}, Regs: 1, Words: []uint32{word(api.Ins{Op: api.IReturn})}, Places: []int{300}}}}
}

// full is an image that has all that there is.
func full() api.Image {
	x := least()
	x.Masks = [8]api.Label{1, 0, ^api.Label(0), 1 << 63, 127, 128, 1 << 62, 5}
	shape := api.Type{Kind: api.TShape, Names: []string{"a", "b"}, Args: []api.Type{{}, {Kind: api.TUnion, Args: []api.Type{{Kind: api.TNil}, {Kind: api.TInt}}}}}
	x.Casts = []api.Blame{{To: shape, Side: 1, At: 0}, {To: api.Type{Kind: api.TFunc, Args: []api.Type{{}}}, Side: 2, At: 1 << 62}}
	x.Shapes = []api.Type{shape}
	p := &x.Protos[0]
	for _, n := range []int64{0, 1, -1, 63, 64, -64, -65, math.MaxInt64, math.MinInt64} {
		p.Consts = append(p.Consts, api.Value{Kind: api.Int, N: n})
	}
	p.Consts = append(p.Consts, api.Value{}, api.Value{Kind: api.Bool}, api.Value{Kind: api.Bool, N: 1}, api.Value{Kind: api.Str}, api.Value{Kind: api.Str, S: "a\x00\xff\x80"})
	x.Protos = append(x.Protos, api.Proto{Types: []api.Type{{}, {}}, Regs: 250, Words: []uint32{word(api.Ins{Op: api.ICall, A: 255 - 6, B: 0}), word(api.Ins{Op: api.IJump})}, Places: []int{0, 1 << 62}, Ups: []api.Up{{Local: true, N: 3}, {N: 1 << 62}}})
	return x
}

// P17.1: the bytes of the least image, one by one.
func TestBytes(t *testing.T) {
	want := []byte{82, 76, 86, 1, 0, 0, 0, 0, 0, 0, 0, 0, 0, 0, 1, 1, 3, 0, 0, 1, 1, 42, 0, 0, 1, 172, 2}
	if b, e := binary.Encode(least()); e != api.OK || !bytes.Equal(b, want) {
		t.Error(b, e)
	}
	x := least()
	x.Masks[1] = ^api.Label(0)
	x.Casts = []api.Blame{{To: api.Type{Kind: api.TShape, Names: []string{"ab"}, Args: []api.Type{{Kind: api.TInt}}}, Side: 2, At: 5}}
	x.Protos[0].Consts = []api.Value{{}, {Kind: 1, N: 1}, {Kind: 2, N: -3}, {Kind: 2, N: 3}, {Kind: 3, S: "\xff"}}
	want = []byte{82, 76, 86, 1, 0, 255, 255, 255, 255, 255, 255, 255, 255, 255, 1, 0, 0, 0, 0, 0, 0, 1, 8, 1, 2, 97, 98, 1, 3, 0, 0, 2, 5, 0, 1, 1, 3, 0, 0, 1, 1, 42, 5, 0, 1, 1, 2, 5, 2, 6, 3, 1, 255, 0, 1, 172, 2}
	if b, e := binary.Encode(x); e != api.OK || !bytes.Equal(b, want) {
		t.Error(b, e)
	}
	x.Protos = nil
	if b, e := binary.Encode(x); len(b) != 0 || e != api.ErrCode {
		t.Error(b, e)
	}
}

// P17.2: other bytes.
func TestOther(t *testing.T) {
	good, _ := binary.Encode(full())
	for n := range good {
		if x, e := binary.Decode(good[:n]); e != api.ErrFile || len(x.Protos) != 0 {
			t.Error(n, e)
		}
	}
	least, _ := binary.Encode(least())
	for name, b := range map[string][]byte{
		"none": nil, "behind": append(slices.Clone(least), 0), "head": append([]byte{82, 76, 86, 2}, least[4:]...), "no least form": slices.Concat(least[:4], []byte{128, 0}, least[5:]), "no least form of 300": append(slices.Clone(least[:25]), 172, 130, 0),
		"11 bytes": slices.Concat(least[:4], []byte{128, 128, 128, 128, 128, 128, 128, 128, 128, 128, 1}, least[5:]), "2^64": slices.Concat(least[:4], []byte{128, 128, 128, 128, 128, 128, 128, 128, 128, 2}, least[5:]),
		"place above 2^62": slices.Concat(least[:25], []byte{129, 128, 128, 128, 128, 128, 128, 128, 64}), "long list": slices.Concat(least[:12], []byte{255, 255, 3}, least[13:]), "a word of 33 bits": slices.Concat(least[:21], []byte{170, 128, 128, 128, 16}, least[22:]),
		"refused": slices.Concat(least[:19], []byte{0}, least[20:]), "const's kind": slices.Concat(least[:22], []byte{1, 4}, least[23:]), "too long": append(slices.Clone(least), make([]byte, 10000000)...),
	} {
		if x, e := binary.Decode(b); e != api.ErrFile || len(x.Protos) != 0 {
			t.Error(name, e)
		}
	}
	if x, e := binary.Decode(slices.Concat(least[:25], []byte{128, 128, 128, 128, 128, 128, 128, 128, 64})); e != api.OK || x.Protos[0].Places[0] != 1<<62 {
		t.Error(e)
	}
	two := full()
	two.Protos[1].Ups[0].Local = false
	b, _ := binary.Encode(two)
	at := bytes.LastIndex(b, []byte{2, 0, 3, 0})
	b[at+1] = 2
	if _, e := binary.Decode(b); e != api.ErrFile {
		t.Error("Local of 2", e)
	}
}

// P17.2: types within one another.
func TestDeep(t *testing.T) {
	file := func(deep int) []byte {
		b := []byte{82, 76, 86, 1, 0, 0, 0, 0, 0, 0, 0, 0, 0, 0, 1, 1}
		for range deep - 1 {
			b = append(b, 9, 0, 1)
		}
		return append(b, 3, 0, 0, 1, 1, 42, 0, 0, 1, 0)
	}
	if _, e := binary.Decode(file(50)); e != api.OK {
		t.Error(e)
	}
	for _, n := range []int{51, 52, 100000} {
		if _, e := binary.Decode(file(n)); e != api.ErrFile {
			t.Error(n, e)
		}
	}
}

// P17.3
func TestThereAndBack(t *testing.T) {
	for _, x := range []api.Image{least(), full()} {
		b, e := binary.Encode(x)
		if e != api.OK {
			t.Fatal(e)
		}
		back, e := binary.Decode(b)
		if e != api.OK || !code.Same(back, x) {
			t.Error(e, back)
		}
		again, _ := binary.Encode(back)
		if !bytes.Equal(again, b) {
			t.Error(again)
		}
	}
	x := least()
	x.Protos[0].Places[0] = math.MaxInt
	b, e := binary.Encode(x)
	if e != api.OK {
		t.Error(e)
	}
	if _, e := binary.Decode(b); e != api.ErrFile {
		t.Error(e)
	}
	good, _ := binary.Encode(full())
	r := rand.New(rand.NewSource(17))
	taken := 0
	for range 100000 {
		b := slices.Clone(good)
		for range 1 + r.Intn(2) {
			b[r.Intn(len(b))] = byte(r.Intn(256) >> r.Intn(8))
		}
		x, e := binary.Decode(b)
		if e != api.OK {
			continue
		}
		taken++
		if again, _ := binary.Encode(x); !bytes.Equal(again, b) {
			t.Error(b, again)
		}
	}
	if taken < 100 {
		t.Error(taken)
	}
}

// P2: nothing is shared.
func TestShared(t *testing.T) {
	b, _ := binary.Encode(full())
	x, _ := binary.Decode(b)
	clear(b)
	if !code.Same(x, full()) {
		t.Error("the bytes are kept")
	}
}
