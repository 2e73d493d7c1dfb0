package num_test

import (
	"math"
	"math/big"
	"math/rand"
	"strings"
	"testing"

	"ravelin/api"
	"ravelin/num"
)

// some answers edge numbers and random ones.
func some() []int64 {
	r := rand.New(rand.NewSource(2))
	l := []int64{0, 1, -1, 2, -2, 7, -7, 10, math.MaxInt64, math.MinInt64, math.MinInt64 + 1, 1 << 32}
	for range 60 {
		l = append(l, int64(r.Uint64())>>r.Intn(60))
	}
	return l
}

// wrap takes a big number modulo 2^64.
func wrap(x *big.Int) int64 {
	low := new(big.Int).And(x, new(big.Int).SetUint64(math.MaxUint64))
	return int64(low.Uint64())
}

// P2.1
func TestDo(t *testing.T) {
	for _, x := range []struct {
		op         int
		a, b, want int64
	}{
		{4, -7, 2, -4}, {5, -7, 2, 1}, {4, 7, -2, -4}, {5, 7, -2, -1}, {4, math.MinInt64, -1, math.MinInt64}, {5, math.MinInt64, -1, 0},
		{1, math.MaxInt64, 1, math.MinInt64}, {2, math.MinInt64, 1, math.MaxInt64}, {3, 1 << 62, 4, 0},
		{6, 1, 2, 1}, {6, 2, 2, 0}, {6, 3, 2, 0}, {7, 2, 2, 1}, {7, 1, 2, 1}, {7, 3, 2, 0}, {8, 2, 2, 1}, {8, 1, 2, 0}, {8, 2, 1, 0},
	} {
		if n, is := num.Do(x.op, x.a, x.b); n != x.want || !is {
			t.Error(x, n, is)
		}
	}
	for _, op := range []int{0, 9, -1, 10, math.MinInt, math.MaxInt} {
		if n, is := num.Do(op, 4, 2); n != 0 || is {
			t.Error(op, n, is)
		}
	}
	for _, op := range []int{api.OpDiv, api.OpMod} {
		if n, is := num.Do(op, 4, 0); n != 0 || is {
			t.Error(op, n, is)
		}
	}
}

// P2.1
func TestModulo(t *testing.T) {
	for _, a := range some() {
		for _, b := range some() {
			x, y := big.NewInt(a), big.NewInt(b)
			for op, want := range map[int]*big.Int{1: new(big.Int).Add(x, y), 2: new(big.Int).Sub(x, y), 3: new(big.Int).Mul(x, y)} {
				if n, _ := num.Do(op, a, b); n != wrap(want) {
					t.Error(op, a, b, n)
				}
			}
		}
	}
}

// P2.2
func TestShowNumber(t *testing.T) {
	for n, want := range map[int64]string{0: "0", -1: "-1", math.MinInt64: "-9223372036854775808", 120: "120"} {
		if num.Show(n) != want {
			t.Error(n, num.Show(n))
		}
	}
	for s, want := range map[string]int64{
		"0": 0, "0xff": 255, "007": 7, "9223372036854775807": math.MaxInt64, strings.Repeat("0", 50) + "9223372036854775807": math.MaxInt64,
		"0xFFFFFFFFFFFFFFFF": -1, "0x8000000000000000": math.MinInt64, "0xaBcDeF": 0xabcdef, "0x0": 0, "0x0000000000000001": 1,
	} {
		if n, is := num.Number(s); n != want || !is {
			t.Error(s, n, is)
		}
	}
	for _, s := range []string{"", "0x", "0X1", "x1", "-1", "+1", "1a", "a", "0xg", "0x00000000000000001", "9223372036854775808", "99999999999999999999999", " 1", "1 ", "1_0", "１", "0x１", "\xff", "0b1", "9223372036854775810"} {
		if n, is := num.Number(s); n != 0 || is {
			t.Error(s, n, is)
		}
	}
}

// P2.3
func TestBack(t *testing.T) {
	for _, a := range some() {
		for _, b := range some() {
			if b == 0 {
				continue
			}
			q, _ := num.Do(api.OpDiv, a, b)
			m, _ := num.Do(api.OpMod, a, b)
			if b*q+m != a || m != 0 && (m < 0) != (b < 0) {
				t.Error(a, b, q, m)
			}
		}
		if a >= 0 {
			if n, is := num.Number(num.Show(a)); n != a || !is {
				t.Error(a, n)
			}
		}
	}
}
