package lattice_test

import (
	"math/rand"
	"slices"
	"testing"

	"keystone/api"
	"keystone/hier"
	"keystone/lattice"
)

// P1, P8: whatever is handed in, of worlds that are linked and of such as are not, every call ends; and the world tells what it told before.
func TestWhateverIsHandedIn(t *testing.T) {
	loose := hier.New()
	if e := loose.Add(api.Module{Classes: family()}); e != api.OK {
		t.Fatal(e)
	}
	r := rand.New(rand.NewSource(7))
	known, types := oddKnown(), oddTypes()
	for _, w := range []*hier.World{world(t, family()...), loose, hier.New()} {
		names, linked := w.Names(), w.Linked()
		for range 30000 {
			a, b, c := known[r.Intn(len(known))], known[r.Intn(len(known))], known[r.Intn(len(known))]
			lattice.Below(w, a, b)
			lattice.Join(w, a)
			lattice.Join(w, a, b)
			lattice.Join(w, a, b, c)
			lattice.Fits(w, a, types[r.Intn(len(types))])
			lattice.Of(a.Type)
			lattice.Holds(a)
			lattice.Text(a)
		}
		lattice.Join(w)
		if !slices.Equal(names, w.Names()) || linked != w.Linked() {
			t.Error("the world is another one")
		}
	}
}

// P2: the row that is joined is as it was, its spare room too.
func TestRowIsNotChanged(t *testing.T) {
	w := world(t, family()...)
	r := rand.New(rand.NewSource(8))
	for range 2000 {
		row := someKnown(r, w, 8)
		n := r.Intn(len(row))
		before := slices.Clone(row)
		want := lattice.Join(w, slices.Clone(row[:n])...)
		got := lattice.Join(w, row[:n]...)
		if !slices.Equal(row, before) {
			t.Fatalf("%v became %v", before, row)
		}
		clear(row)
		if got != want {
			t.Fatalf("%v: %v, wanted %v", before[:n], got, want)
		}
	}
}

// P3: the same is answered again, whatever was asked between; and by a world of the same classes in another order.
func TestSameAgain(t *testing.T) {
	families(t, 9, 10, func(r *rand.Rand, w *hier.World, l []api.Class) {
		slices.Reverse(l)
		other := world(t, l...)
		for range 300 {
			x := someKnown(r, w, 3)
			up := lattice.Join(w, x...)
			below := lattice.Below(w, x[0], x[1])
			fits := lattice.Fits(w, x[0], x[1].Type)
			lattice.Join(w, someKnown(r, w, 3)...)
			if lattice.Join(w, x...) != up || lattice.Join(other, x...) != up {
				t.Fatalf("Join %v", x)
			}
			if lattice.Below(w, x[0], x[1]) != below || lattice.Below(other, x[0], x[1]) != below {
				t.Fatalf("Below %v", x[:2])
			}
			if lattice.Fits(w, x[0], x[1].Type) != fits || lattice.Fits(other, x[0], x[1].Type) != fits {
				t.Fatalf("Fits %v", x[:2])
			}
		}
	})
}
