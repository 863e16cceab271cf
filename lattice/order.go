package lattice

import (
	"keystone/api"
	"keystone/hier"
)

// object is the class above all others, and above all arrays.
const object = "Object"

// typeBelow tells whether knowing the one type is knowing the other one: by classes alone, as joins by interfaces would not be unique.
func typeBelow(w *hier.World, a, b api.Type) bool {
	if a == b || b == (api.Type{Name: object}) {
		return true
	}
	return a.Dims == 0 && b.Dims == 0 && w.Above(b.Name, a.Name)
}

func joinTwo(w *hier.World, a, b api.VType) api.VType {
	switch {
	case Below(w, a, b):
		return b
	case Below(w, b, a):
		return a
	case a.Kind == api.VRef && b.Kind == api.VRef:
		return Of(api.Type{Name: classAbove(w, a.Type, b.Type)})
	}
	return api.VType{Kind: api.VTop}
}

// classAbove is the lowest class above two types that are not the same.
func classAbove(w *hier.World, a, b api.Type) string {
	if a.Dims == 0 && b.Dims == 0 {
		// Of classes that are not there it tells none: then, too, the answer is knowledge of an object.
		if up := w.Common(a.Name, b.Name); up != "" {
			return up
		}
	}
	return object
}
