package code

import "ravelin/api"

// Same tells whether images are alike.
func Same(a, b api.Image) bool {
	return a.Masks == b.Masks && alike(a.Protos, b.Protos, sameProto) && alike(a.Casts, b.Casts, sameCast) && alike(a.Shapes, b.Shapes, sameType)
}

// alike tells whether lists are alike, one by one.
func alike[T any](a, b []T, same func(a, b T) bool) bool {
	if len(a) != len(b) {
		return false
	}
	for n := range a {
		if !same(a[n], b[n]) {
			return false
		}
	}
	return true
}

// equal is ==.
func equal[T comparable](a, b T) bool { return a == b }

// sameProto tells whether functions are alike.
func sameProto(a, b api.Proto) bool {
	return a.Regs == b.Regs && alike(a.Types, b.Types, sameType) && alike(a.Words, b.Words, equal) &&
		alike(a.Consts, b.Consts, equal) && alike(a.Ups, b.Ups, equal) && alike(a.Places, b.Places, equal)
}

// sameCast tells whether casts are alike.
func sameCast(a, b api.Blame) bool {
	return a.Side == b.Side && a.At == b.At && sameType(a.To, b.To)
}

// The bounds of types that are compared: no type that may be is larger, but one that holds itself has no end.
const (
	largest = 1 << 26
	deepest = 1 << 16
)

// sameType tells whether types are alike, be they such as may be or not.
func sameType(a, b api.Type) bool {
	left := largest
	var same func(a, b api.Type, deep int) bool
	same = func(a, b api.Type, deep int) bool {
		left--
		if left < 0 || deep > deepest || a.Kind != b.Kind || !alike(a.Names, b.Names, equal) {
			return false
		}
		return alike(a.Args, b.Args, func(a, b api.Type) bool { return same(a, b, deep+1) })
	}
	return same(a, b, 1)
}
