// Package label is layer 1: sets of principals (doc/01-label.md).
package label

import (
	"iter"
	"math/bits"
	"strconv"
	"strings"

	"ravelin/api"
)

// Join tells all principals that are in one of the labels.
func Join(l ...api.Label) api.Label {
	var all api.Label
	for _, one := range l {
		all |= one
	}
	return all
}

// Meet tells the principals that are in both labels.
func Meet(a, b api.Label) api.Label { return a & b }

// Flows tells whether each principal of a is in b.
func Flows(a, b api.Label) bool { return a&^b == 0 }

// Has tells whether principal p is in l.
func Has(l api.Label, p int) bool {
	return p >= 0 && p < api.Principals && l>>p&1 == 1
}

// Of makes the label of the principals of a list.
func Of(l []int) (api.Label, api.Errno) {
	var all api.Label
	for _, p := range l {
		if p < 0 || p >= api.Principals {
			return 0, api.ErrRange
		}
		all |= 1 << p
	}
	return all, api.OK
}

// List tells a label's principals, rising.
func List(l api.Label) []int {
	var all []int
	for p := range members(l) {
		all = append(all, p)
	}
	return all
}

// Show writes a label as {0,3}.
func Show(l api.Label) string {
	var digits []string
	for p := range members(l) {
		digits = append(digits, strconv.Itoa(p))
	}
	return "{" + strings.Join(digits, ",") + "}"
}

// Parse reads what Show writes, and nothing else.
func Parse(s string) (api.Label, bool) {
	inner, is := strings.CutPrefix(s, "{")
	if !is {
		return 0, false
	}
	inner, is = strings.CutSuffix(inner, "}")
	if !is {
		return 0, false
	}
	if inner == "" {
		return 0, true
	}
	var list []int
	for _, digits := range strings.Split(inner, ",") {
		p, err := strconv.Atoi(digits)
		if err != nil {
			return 0, false
		}
		list = append(list, p)
	}
	l, e := Of(list)
	// Writing it again rules out signs, noughts ahead, doubles and another order.
	if e != api.OK || Show(l) != s {
		return 0, false
	}
	return l, true
}

// members tells a label's principals bit by bit, rising.
func members(l api.Label) iter.Seq[int] {
	return func(yield func(int) bool) {
		for rest := uint64(l); rest != 0; rest &= rest - 1 {
			if !yield(bits.TrailingZeros64(rest)) {
				return
			}
		}
	}
}
