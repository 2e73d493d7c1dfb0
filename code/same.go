package code

import (
	"ravelin/api"
	"ravelin/dup"
)

// Same tells whether images are alike.
func Same(a, b api.Image) bool {
	return a.Masks == b.Masks && alike(a.Protos, b.Protos, sameProto) && alike(a.Casts, b.Casts, sameCast) && alike(a.Shapes, b.Shapes, dup.Alike)
}

// alike tells whether lists are alike, one by one.
func alike[T any](a, b []T, same func(a, b T) bool) bool {
	if len(a) != len(b) {
		return false
	}
	for n := range a {
		if !same(a[n], b[n]) {
			return false
		}
	}
	return true
}

// equal is ==.
func equal[T comparable](a, b T) bool { return a == b }

// sameProto tells whether functions are alike.
func sameProto(a, b api.Proto) bool {
	return a.Regs == b.Regs && alike(a.Types, b.Types, dup.Alike) && alike(a.Words, b.Words, equal) &&
		alike(a.Consts, b.Consts, equal) && alike(a.Ups, b.Ups, equal) && alike(a.Places, b.Places, equal)
}

// sameCast tells whether casts are alike.
func sameCast(a, b api.Blame) bool {
	return a.Side == b.Side && a.At == b.At && dup.Alike(a.To, b.To)
}
