package check

import (
	"math/rand"
	"slices"
	"strings"
	"testing"

	"ravelin/api"
	"ravelin/narrow"
	"ravelin/parse"
	"ravelin/scope"
)

// What the checker knows of conditions is what narrow.Tests says.
func TestAsNarrow(t *testing.T) {
	words := strings.Fields(`x y z and or not ( ) == ~= == nil type(x) type(y) "int" "table" "x" 1`)
	r := rand.New(rand.NewSource(13))
	told := 0
	for range 30000 {
		var b []string
		for range 1 + r.Intn(9) {
			b = append(b, words[r.Intn(len(words))])
		}
		l, _, e := parse.Program("local x local y local z z = 1 return " + strings.Join(b, " "))
		if e != api.OK {
			continue
		}
		s, _, e := scope.Program(l)
		if e != api.OK {
			continue
		}
		n := l[len(l)-3].Kids[0]
		if l[n].Kind == api.NNone {
			continue
		}
		c := newChecker(l, s)
		for _, yes := range []bool{true, false} {
			want := narrow.Tests(l, s, n, yes)
			told += len(want)
			if got := c.tests(n, yes); !slices.Equal(got, want) {
				t.Errorf("%q %v: %v, not %v", b, yes, got, want)
			}
		}
	}
	if told < 100 {
		t.Error(told)
	}
}

// What the checker knows of blocks is what scope.Ends says.
func TestAsEnds(t *testing.T) {
	for _, s := range []string{"", "return", "local x", "if true then return end", "if true then return else return 1 end", "if true then return elseif true then else return end", "while true do return end"} {
		l, _, e := parse.Program(s)
		if e != api.OK {
			t.Fatal(s)
		}
		c := newChecker(l, api.Scope{})
		for n := range l {
			if l[n].Kind == api.NBlock && c.ends(n) != scope.Ends(l, n) {
				t.Error(s, n)
			}
		}
	}
}
