package lattice_test

import (
	"slices"

	"keystone/api"
)

// book is W8, written as plainly as it can be: by the classes' Supers alone, without package hier.
type book map[string]string

// bookOf is the book of some classes, and of those that are there from the beginning.
func bookOf(l []api.Class) book {
	b := book{"Object": "", "Throwable": "Object"}
	for _, s := range []string{"NilError", "BoundsError", "CastError", "DivError", "DepthError", "HeapError"} {
		b[s] = "Throwable"
	}
	for _, c := range l {
		b[c.Name] = c.Super
	}
	return b
}

// above are all that stand above a class, it first.
func (b book) above(name string) []string {
	var l []string
	for ; name != ""; name = b[name] {
		l = append(l, name)
	}
	return l
}

// ups is all that is above one knowledge.
func (b book) ups(a api.VType) []api.VType {
	l := []api.VType{a}
	switch {
	case a.Kind == api.VRef && a.Type.Dims == 0:
		for _, s := range b.above(a.Type.Name)[1:] {
			l = append(l, ref("L"+s+";"))
		}
	case a.Kind == api.VRef:
		l = append(l, ref("LObject;"))
	}
	if a.Kind != api.VTop {
		l = append(l, top)
	}
	return l
}

func (b book) below(a, c api.VType) bool {
	return a.Kind == api.VNil && c.Kind == api.VRef || slices.Contains(b.ups(a), c)
}

// join is the one that is above all of l and below all others of the universe that are.
func (b book) join(universe []api.VType, l ...api.VType) api.VType {
	if len(l) == 0 {
		return api.VType{}
	}
	bounds := slices.DeleteFunc(slices.Clone(universe), func(up api.VType) bool {
		return slices.ContainsFunc(l, func(a api.VType) bool { return !b.below(a, up) })
	})
	least := slices.DeleteFunc(slices.Clone(bounds), func(a api.VType) bool {
		return slices.ContainsFunc(bounds, func(up api.VType) bool { return !b.below(a, up) })
	})
	if len(least) != 1 {
		panic("the book's order has no least one")
	}
	return least[0]
}
