package lattice_test

import (
	"fmt"
	"math"
	"math/rand"
	"slices"
	"testing"

	"keystone/api"
	"keystone/desc"
	"keystone/hier"
)

// typ is a type by its text.
func typ(s string) api.Type {
	t, e := desc.Type(s)
	if e != api.OK {
		panic(s)
	}
	return t
}

// The kinds of knowledge that have one value each.
var (
	num  = api.VType{Kind: api.VNum}
	null = api.VType{Kind: api.VNil}
	top  = api.VType{Kind: api.VTop}
)

// ref is knowledge of a type by its text; fresh and self are of a class.
func ref(s string) api.VType { return api.VType{Kind: api.VRef, Type: typ(s)} }

func fresh(at int, class string) api.VType {
	return api.VType{Kind: api.VFresh, Type: api.Type{Name: class}, At: at}
}

func self(class string) api.VType {
	return api.VType{Kind: api.VSelf, Type: api.Type{Name: class}}
}

// class and face are a class and an interface, with these Faces.
func class(name, super string, faces ...string) api.Class {
	return api.Class{Name: name, Super: super, Faces: faces}
}

func face(name string, faces ...string) api.Class {
	return api.Class{Flags: api.FFace, Name: name, Super: "Object", Faces: faces}
}

// world is these classes, linked.
func world(t *testing.T, l ...api.Class) *hier.World {
	t.Helper()
	w := hier.New()
	if e := w.Add(api.Module{Classes: l}); e != api.OK {
		t.Fatalf("Add: %v", e)
	}
	if s, e := w.Link(); e != api.OK {
		t.Fatalf("Link: %s, %v", s, e)
	}
	return w
}

// family has B and C below A, D below C, I a face of A, J below I and K below nothing, and E beside them all.
func family() []api.Class {
	return []api.Class{
		face("I"), face("J", "I"), face("K"),
		class("A", "Object", "I"), class("B", "A"), class("C", "A", "K"), class("D", "C"), class("E", "Object", "J"),
	}
}

// someFamily are at most eight classes, each below one ahead of it or one of those that are given, and at most four interfaces; in any order.
func someFamily(r *rand.Rand) []api.Class {
	var l []api.Class
	var faces []string
	someFaces := func() []string {
		var some []string
		for _, i := range r.Perm(len(faces)) {
			if r.Intn(3) == 0 {
				some = append(some, faces[i])
			}
		}
		return some
	}
	for i := range r.Intn(5) {
		name := fmt.Sprint("I", i)
		l = append(l, face(name, someFaces()...))
		faces = append(faces, name)
	}
	supers := []string{"Object", "Throwable", "DivError"}
	for i := range r.Intn(9) {
		name := fmt.Sprint("C", i)
		l = append(l, class(name, supers[r.Intn(len(supers))], someFaces()...))
		supers = append(supers, name)
	}
	r.Shuffle(len(l), func(i, j int) { l[i], l[j] = l[j], l[i] })
	return l
}

// deepFamily is a chain as long as may be, and one beside it that leaves it half way.
func deepFamily() []api.Class {
	var l []api.Class
	up := "Object"
	for i := 1; i < api.MaxChain; i++ {
		l = append(l, class(fmt.Sprint("C", i), up))
		up = fmt.Sprint("C", i)
	}
	up = "C15"
	for i := 16; i < api.MaxChain; i++ {
		l = append(l, class(fmt.Sprint("D", i), up))
		up = fmt.Sprint("D", i)
	}
	return l
}

// allKnown is right knowledge of every kind, of all classes of a world; arrays and fresh objects of each in two ways.
func allKnown(w *hier.World) []api.VType {
	l := []api.VType{num, null, top, ref("[I"), ref("[[I"), ref("[[[[[[[[I")}
	for _, s := range w.Names() {
		l = append(l, ref("L"+s+";"), ref("[L"+s+";"), ref("[[[[[[[[L"+s+";"))
		if c, _, _ := w.Class(s); c.Flags&api.FFace == 0 {
			l = append(l, self(s), fresh(0, s), fresh(7, s))
		}
	}
	return l
}

// someKnown is so many of allKnown.
func someKnown(r *rand.Rand, w *hier.World, n int) []api.VType {
	all := allKnown(w)
	var l []api.VType
	for range n {
		l = append(l, all[r.Intn(len(all))])
	}
	return l
}

// oddTypes and oddKnown are right ones and such as may not be.
func oddTypes() []api.Type {
	var l []api.Type
	for _, dims := range []int{math.MinInt, -1, 0, 1, 8, 9, math.MaxInt} {
		for _, name := range []string{"", "A", "I", "Object", "None", "<init>", "1", "a b", "\xff\x00", "L;", "xxxxxxxxxxxxxxxxxxxxxxxxxxxxxxxxx"} {
			l = append(l, api.Type{Dims: dims, Name: name})
		}
	}
	return l
}

func oddKnown() []api.VType {
	var l []api.VType
	for _, kind := range []int{math.MinInt, -1, 0, 1, 2, 3, 4, 5, 6, 7, 9, 256 + 3, math.MaxInt} {
		for _, t := range oddTypes() {
			for _, at := range []int{math.MinInt, -1, 0, 12, math.MaxInt} {
				l = append(l, api.VType{Kind: kind, Type: t, At: at})
			}
		}
	}
	return l
}

// families calls f with the worlds that are written above, and so many random ones; with the classes they are made of.
func families(t *testing.T, seed int64, n int, f func(r *rand.Rand, w *hier.World, l []api.Class)) {
	t.Helper()
	r := rand.New(rand.NewSource(seed))
	all := [][]api.Class{nil, family(), deepFamily()}
	for range n {
		all = append(all, someFamily(r))
	}
	for _, l := range all {
		f(r, world(t, l...), slices.Clone(l))
	}
}
