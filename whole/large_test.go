package whole

import (
	"strconv"
	"strings"
	"testing"

	"ravelin/api"
	"ravelin/vm"
)

// parts begins a program with a record t, whose fields are a, b and c, ints, and so many others of three parts each.
func parts(others int) string {
	var b strings.Builder
	b.WriteString("local x = read(0) local t = {a=5,b=6,c=7,")
	for n := range others {
		b.WriteString("n" + strconv.Itoa(n) + "=x,")
	}
	return b.String() + "} "
}

// P24.1, P24.2, G3: a record of more than 10,000 parts has no stamps, so its fields may come to hold anything, and so may whatever is made of them: no special instruction may rest on their types.
func TestParts(t *testing.T) {
	lim := api.Limits{Fuel: 1 << 20, Frames: 20, Cells: 1 << 20, Bytes: 100}
	record := parts(3400)
	for _, x := range []struct {
		s, want string
		bare    string // what it comes to without types, if that is something else
	}{
		{"t.b = 8 write(0, t.b + t.c)", "done nil; 0:15", ""},
		{"t[\"b\"] = \"s\" write(0, t.b) write(0, t.b + t.c)", "error arith; 0:s", ""},
		{"t[\"b\"] = nil local y: int = t.b write(0, type(y)) y = y // 2", "error arith; 0:nil", ""},
		{"t[\"b\"] = {} function f(q: int): int return q * 2 end f(t.b)", "error arith", ""},
		{"t[\"b\"] = \"s\" local z = {a = t.b} write(0, z.a) z.a = t.b z.a = z.a - 1", "error arith; 0:s", ""},
		{"local u = t local v = t or t v.b = \"s\" write(0, u.b) return u.b < u.c", "error compare; 0:s", ""},
		{"local v = t or t local s: {b: int} = v write(0, s.b + 1) t[\"b\"] = \"s\"", "blame 64 1; 0:7", "done nil; 0:7"},
		{"function f(q: {a: int}) q[\"a\"] = nil end local s = {a = 3} s.a = s.a + t.a write(0, s.a) f(s)", "blame 31 1; 0:8", "done nil; 0:8"},
	} {
		l, es, images := images(t, record+x.s)
		if len(images) != 2 {
			t.Error(x.s, "is not taken")
		}
		for n, image := range images {
			got := run(t, image, api.Inputs{}, lim)
			want := newOracle(l, es[n], image.Masks, api.Inputs{}).run()
			same := vm.Same(got, want)
			text := x.want
			if n == 1 && x.bare != "" {
				text = x.bare
			}
			if got.End == api.EndBlame {
				got.At -= len(record)
			}
			if !same || got.Slips != 0 || brief(got) != text {
				t.Errorf("%s\nvm:     %s, %d slips\noracle: %s", x.s, brief(got), got.Slips, brief(want))
			}
		}
	}
}
