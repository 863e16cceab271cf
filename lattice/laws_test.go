package lattice_test

import (
	"math/rand"
	"slices"
	"testing"

	"keystone/api"
	"keystone/hier"
	"keystone/lattice"
)

// P704: each is below itself; two that are below each other are the same; below what is below is below.
func TestOrderLaws(t *testing.T) {
	families(t, 3, 15, func(r *rand.Rand, w *hier.World, l []api.Class) {
		all := allKnown(w)
		for _, a := range all {
			if !lattice.Below(w, a, a) || !lattice.Below(w, a, top) {
				t.Fatalf("%v is not below itself, or not below top", a)
			}
			for _, b := range all {
				if a != b && lattice.Below(w, a, b) && lattice.Below(w, b, a) {
					t.Fatalf("%v, %v: each below the other one", a, b)
				}
			}
		}
		for range 3000 {
			x := someKnown(r, w, 3)
			if lattice.Below(w, x[0], x[1]) && lattice.Below(w, x[1], x[2]) && !lattice.Below(w, x[0], x[2]) {
				t.Fatalf("%v: not below the last one", x)
			}
		}
	})
}

// P704: a join is above all that it is made of, and below all that is above them; a is below b just where their join is b.
func TestJoinIsLeast(t *testing.T) {
	families(t, 4, 15, func(r *rand.Rand, w *hier.World, l []api.Class) {
		all := allKnown(w)
		for range 300 {
			some := someKnown(r, w, 1+r.Intn(4))
			up := lattice.Join(w, some...)
			if slices.ContainsFunc(some, func(a api.VType) bool { return !lattice.Below(w, a, up) }) {
				t.Fatalf("%v: %v is not above them", some, up)
			}
			for _, other := range all {
				bound := !slices.ContainsFunc(some, func(a api.VType) bool { return !lattice.Below(w, a, other) })
				if bound && !lattice.Below(w, up, other) {
					t.Fatalf("%v: %v is above them, and not above %v", some, other, up)
				}
			}
			if a, b := some[0], some[len(some)-1]; lattice.Below(w, a, b) != (lattice.Join(w, a, b) == b) {
				t.Fatalf("%v, %v: below and join are at odds", a, b)
			}
		}
	})
}

// P704: a join knows neither order nor brackets, nor how often one is handed in.
func TestJoinKnowsNoOrder(t *testing.T) {
	families(t, 5, 20, func(r *rand.Rand, w *hier.World, l []api.Class) {
		for range 300 {
			some := someKnown(r, w, 1+r.Intn(6))
			want := lattice.Join(w, some...)
			cut := 1 + r.Intn(len(some))
			parts := []api.VType{lattice.Join(w, some[:cut]...)}
			if cut < len(some) {
				parts = append(parts, lattice.Join(w, some[cut:]...))
			}
			if got := lattice.Join(w, parts...); got != want {
				t.Fatalf("%v, by brackets at %d: %v, wanted %v", some, cut, got, want)
			}
			mixed := append(slices.Clone(some), some[r.Intn(len(some))])
			r.Shuffle(len(mixed), func(i, j int) { mixed[i], mixed[j] = mixed[j], mixed[i] })
			if got := lattice.Join(w, mixed...); got != want {
				t.Fatalf("%v: %v, wanted %v as of %v", mixed, got, want, some)
			}
		}
	})
}

// P704: what fits a type, so does all that is below it.
func TestFitsGoesDown(t *testing.T) {
	families(t, 6, 8, func(r *rand.Rand, w *hier.World, l []api.Class) {
		all := allKnown(w)
		types := []api.Type{{}, typ("[I"), typ("[[[[[[[[I")}
		for _, s := range w.Names() {
			types = append(types, typ("L"+s+";"), typ("[L"+s+";"))
		}
		for range 4000 {
			b, c := all[r.Intn(len(all))], types[r.Intn(len(types))]
			if lattice.Fits(w, b, c) != api.OK {
				continue
			}
			for _, a := range all {
				if lattice.Below(w, a, b) && lattice.Fits(w, a, c) != api.OK {
					t.Fatalf("%v fits %v, and %v below it does not", b, c, a)
				}
			}
		}
	})
}
