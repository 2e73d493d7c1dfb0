package flow_test

import (
	"math/rand"
	"slices"
	"testing"
	"time"

	"ravelin/api"
	"ravelin/flow"
	"ravelin/instr"
)

func word(i api.Ins) uint32 {
	w, e := instr.Encode(i)
	if e != api.OK {
		panic(i)
	}
	return w
}

func proto(l ...api.Ins) api.Proto {
	var p api.Proto
	for _, i := range l {
		p.Words = append(p.Words, word(i))
	}
	return p
}

func brf(d int) api.Ins  { return api.Ins{Op: api.IBrf, D: d} }
func jump(d int) api.Ins { return api.Ins{Op: api.IJump, D: d} }
func set(a int) api.Ins  { return api.Ins{Op: api.IConst, A: a} }

var (
	join = api.Ins{Op: api.IJoin}
	ret  = api.Ins{Op: api.IReturn}
)

// example is the chapter's.
func example() api.Proto { return proto(brf(4), join, set(7), jump(4), ret) }

// P18.1
func TestNext(t *testing.T) {
	p := example()
	p.Words = append(p.Words, 0, word(jump(-3)), word(brf(6)), word(brf(-1)), word(brf(2)), word(jump(99)), word(set(1)))
	for n, want := range [][]int{{2, 4}, {2}, {3}, {4}, {-1}, {6}, {-1}, {6, 9}, {-1, 10}, {2, 11}, {-1}, {-1}} {
		if got := flow.Next(p, n); !slices.Equal(got, want) {
			t.Error(n, got)
		}
	}
	for _, n := range []int{-1, 12, 1 << 60, -1 << 63} {
		if got := flow.Next(p, n); len(got) != 0 {
			t.Error(n, got)
		}
	}
	if got := flow.Next(proto(brf(2), join, ret), 0); !slices.Equal(got, []int{2}) {
		t.Error(got)
	}
	if got := flow.Next(proto(api.Ins{Op: api.IError}, ret), 0); !slices.Equal(got, []int{1}) {
		t.Error(got)
	}
}

// P18.2, P18.3
func TestPostsReach(t *testing.T) {
	for n, x := range []struct {
		p     api.Proto
		posts []int
		reach []bool
	}{
		{api.Proto{}, nil, nil},
		{example(), []int{4, 2, 3, 4, -1}, []bool{true, false, true, true, true}},
		{proto(brf(4), join, set(1), ret, set(2), ret), []int{-1, 2, 3, -1, 5, -1}, []bool{true, false, true, true, true, true}},
		{proto(brf(4), join, set(1), jump(0), ret), []int{4, 2, 3, 0, -1}, []bool{true, false, true, true, true}},
		{proto(jump(0), ret), []int{-1, -1}, []bool{true, false}},
		{proto(brf(3), join, jump(2), ret), []int{3, -1, -1, -1}, []bool{true, false, true, true}},
		{proto(brf(0), join, ret), []int{2, 2, -1}, []bool{true, false, true}},
		{proto(jump(2), set(1), ret), []int{2, 2, -1}, []bool{true, false, true}},
		{proto(set(1), set(2)), []int{1, -1}, []bool{true, true}},
	} {
		if got := flow.Posts(x.p); !slices.Equal(got, x.posts) {
			t.Error(n, got)
		}
		if got := flow.Reach(x.p); !slices.Equal(got, x.reach) {
			t.Error(n, got)
		}
	}
}

// ways tells which places can be reached from some without going through one.
func ways(p api.Proto, from []int, without int) map[int]bool {
	seen := map[int]bool{}
	for len(from) > 0 {
		n := from[0]
		from = from[1:]
		if n == without || seen[n] {
			continue
		}
		seen[n] = true
		from = append(from, flow.Next(p, n)...)
	}
	return seen
}

// some is a function of random words, most of which branch.
func some(r *rand.Rand) api.Proto {
	n := 1 + r.Intn(10)
	var l []api.Ins
	for range n {
		switch r.Intn(6) {
		case 0, 1:
			l = append(l, jump(r.Intn(n+1)))
		case 2, 3:
			l = append(l, brf(r.Intn(n+1)-r.Intn(2)))
		case 4:
			l = append(l, api.Ins{Op: r.Intn(62) + 1, A: r.Intn(4)})
		default:
			l = append(l, ret)
		}
	}
	var p api.Proto
	for _, i := range l {
		w, e := instr.Encode(i)
		if e != api.OK {
			w = 0
		}
		p.Words = append(p.Words, w)
	}
	return p
}

// P18.2, P18.3, P18.4: as they are told, by trying all ways.
func TestAllWays(t *testing.T) {
	r := rand.New(rand.NewSource(18))
	for range 20000 {
		p := some(r)
		posts, reach := flow.Posts(p), flow.Reach(p)
		reached := ways(p, []int{0}, -2)
		for n := range p.Words {
			if reach[n] != reached[n] {
				t.Fatal(p, n, reach)
			}
			next := flow.Next(p, n)
			if !ways(p, next, -2)[-1] {
				if posts[n] != -1 {
					t.Fatal(p, n, posts)
				}
				continue
			}
			if len(next) == 1 && posts[n] != next[0] {
				t.Fatal(p, n, posts)
			}
			var behind []int
			for m := range p.Words {
				if m != n && !ways(p, next, m)[-1] {
					behind = append(behind, m)
				}
			}
			want := -1
			for _, m := range behind {
				nearest := true
				for _, o := range behind {
					nearest = nearest && (o == m || !ways(p, flow.Next(p, m), o)[-1])
				}
				if nearest {
					want = m
				}
			}
			if posts[n] != want {
				t.Fatal(p, n, posts, behind, want)
			}
		}
	}
}

// P18.5
func TestWrites(t *testing.T) {
	for n, x := range []struct {
		p    api.Proto
		at   int
		want []int
	}{
		{example(), 0, []int{7}}, {example(), 1, nil}, {example(), 2, nil}, {example(), 4, nil}, {example(), -1, nil}, {example(), 5, nil},
		{proto(brf(5), join, set(9), set(3), jump(6), set(9), set(1), ret), 0, []int{3, 9}},
		{proto(brf(4), join, set(1), ret, set(2), set(200), ret), 0, []int{1, 2, 200}},
		{proto(set(5), brf(5), join, set(1), jump(0), set(2), ret), 1, []int{1, 5}},
		{proto(brf(3), join, jump(2), set(1), ret), 0, nil},
		{proto(brf(4), join, set(1), jump(2), set(2), ret), 0, []int{1}},
		{proto(brf(4), join, set(1), jump(2), set(2), jump(4)), 0, []int{1, 2}},
	} {
		if got := flow.Writes(x.p, x.at); !slices.Equal(got, x.want) {
			t.Error(n, got)
		}
	}
	writers := []int{1, 2, 3, 5, 6, 8, 11, 12, 13, 14, 15, 16, 17, 18, 19, 21, 22, 23, 24, 25, 26, 27, 30, 31, 32, 40, 41, 43, 45, 46, 49, 51, 53, 54, 55, 57, 58, 59, 60, 61}
	for op := 1; op < 63; op++ {
		i := api.Ins{Op: op, A: 9}
		if _, e := instr.Encode(i); e != api.OK || op == api.IJoin || op == api.IReturn || op == api.IBrf || op == api.IBrt {
			continue
		}
		got := flow.Writes(proto(brf(3), join, i, ret), 0)
		if slices.Contains(writers, op) != slices.Equal(got, []int{9}) || len(got) > 1 {
			t.Error(op, got)
		}
	}
	p := example()
	p.Words[0] = word(api.Ins{Op: api.IBrt, D: 4})
	if got := flow.Writes(p, 0); !slices.Equal(got, []int{7}) {
		t.Error(got)
	}
}

// P18.5: as it is told, by trying all ways.
func TestWritesAllWays(t *testing.T) {
	r := rand.New(rand.NewSource(19))
	for range 20000 {
		p := some(r)
		posts := flow.Posts(p)
		for n := range p.Words {
			i, e := instr.Decode(p.Words[n])
			var want []int
			if e == api.OK && (i.Op == api.IBrf || i.Op == api.IBrt) {
				without := posts[n]
				if without == -1 {
					without = -2
				}
				for m := range ways(p, flow.Next(p, n), without) {
					if m < 0 || m == n {
						continue
					}
					w := flow.Writes(proto(brf(3), join, ret, ret), 0)
					if k, e := instr.Decode(p.Words[m]); e == api.OK && k.Op != api.IJump && k.Op != api.IJoin && k.Op != api.IReturn && k.Op != api.IBrf && k.Op != api.IBrt {
						w = flow.Writes(proto(brf(3), join, k, ret), 0)
					}
					want = append(want, w...)
				}
				slices.Sort(want)
				want = slices.Compact(want)
			}
			if got := flow.Writes(p, n); !slices.Equal(got, want) {
				t.Fatal(p, n, got, want)
			}
		}
	}
}

// The longest functions are gone through in a time that can be waited for.
func TestLong(t *testing.T) {
	begin := time.Now()
	var l []api.Ins
	for len(l) < api.MaxWords-3 {
		l = append(l, brf(len(l)+3), join, set(1))
	}
	l = append(l, ret)
	posts := flow.Posts(proto(l...))
	if posts[0] != 3 || posts[len(l)-4] != len(l)-1 {
		t.Error(posts[0])
	}
	var back []api.Ins
	for n := range 9999 {
		back = append(back, jump(9998-n+1))
	}
	back = append(back, ret)
	back[0] = jump(1)
	flow.Posts(proto(back...))
	t.Log(time.Since(begin))
}
