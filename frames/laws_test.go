package frames_test

import (
	"math/rand"
	"slices"
	"testing"

	"keystone/api"
	"keystone/frames"
	"keystone/hier"
	"keystone/lattice"
)

// raised is a frame above f: some of its places are joined with others.
func raised(r *rand.Rand, w *hier.World, f api.Frame) api.Frame {
	if !frames.Reached(f) {
		return someFrame(r, r.Intn(3), r.Intn(3))
	}
	up := func(l []api.VType) []api.VType {
		var got []api.VType
		for _, a := range l {
			if r.Intn(2) == 0 {
				a = lattice.Join(w, a, some(r, known(), 1)[0])
			}
			got = append(got, a)
		}
		return got
	}
	return of(up(row(f.Self))[0], up(f.Locals), up(f.Stack))
}

// everyFrame is Frame{}, and every frame of few places and little knowledge.
func everyFrame() []api.Frame {
	l := []api.Frame{{}}
	few := row(num, null, ref("LB;"), ref("LC;"), ref("LA;"), ref("[I"), fresh(7, "A"), top)
	for _, own := range row(self("A"), ref("LA;"), top) {
		l = append(l, of(own, nil, nil))
		for _, a := range few {
			l = append(l, of(own, row(a), nil), of(own, nil, row(a)))
			for _, b := range few {
				l = append(l, of(own, row(a), row(b)))
			}
		}
	}
	return l
}

// P805: each is below itself; two that are below each other are the same; below what is below is below.
func TestOrderLaws(t *testing.T) {
	w := world(t, family()...)
	all := everyFrame()
	for i, a := range all {
		if !frames.Below(w, a, a) || !frames.Below(w, api.Frame{}, a) {
			t.Fatalf("%v is not below itself, or not above Frame{}", a)
		}
		for _, b := range all[:i] {
			if frames.Below(w, a, b) && frames.Below(w, b, a) {
				t.Fatalf("%v, %v: each below the other one", a, b)
			}
		}
	}
	r := rand.New(rand.NewSource(5))
	for range 20000 {
		a := someFrame(r, r.Intn(3), r.Intn(3))
		b := raised(r, w, a)
		c := raised(r, w, b)
		if !frames.Below(w, a, b) || !frames.Below(w, b, c) || !frames.Below(w, a, c) {
			t.Fatalf("%v, %v, %v: not each below the next one", a, b, c)
		}
		if frames.Below(w, c, a) != frames.Same(a, c) {
			t.Fatalf("%v, %v: below, and not the same", c, a)
		}
	}
}

// P805: a join is above all, and below all that is above them; where there is none, nothing is above them.
func TestJoinIsLeast(t *testing.T) {
	w := world(t, family()...)
	all := everyFrame()
	r := rand.New(rand.NewSource(6))
	for range 4000 {
		var l []api.Frame
		for range 1 + r.Intn(3) {
			l = append(l, all[r.Intn(len(all))])
		}
		if r.Intn(2) == 0 { // so that they meet
			l[0] = l[len(l)-1]
			l = append(l, raised(r, w, l[0]))
		}
		up, e := frames.Join(w, l...)
		for _, other := range append(all, l...) {
			bound := !slices.ContainsFunc(l, func(f api.Frame) bool { return !frames.Below(w, f, other) })
			if bound && (e != api.OK || !frames.Below(w, up, other)) {
				t.Fatalf("%v: %v is above them, and not above %v, %v", l, other, up, e)
			}
		}
		if e == api.OK && slices.ContainsFunc(l, func(f api.Frame) bool { return !frames.Below(w, f, up) }) {
			t.Fatalf("%v: %v is not above them", l, up)
		}
	}
}

// P805: a join knows neither order nor brackets, nor how often one is handed in; a is below b just where their join is b.
func TestJoinKnowsNoOrder(t *testing.T) {
	w := world(t, family()...)
	r := rand.New(rand.NewSource(7))
	for range 5000 {
		var l []api.Frame
		locals, stack := r.Intn(3), r.Intn(3)
		for range 1 + r.Intn(5) {
			l = append(l, someFrame(r, locals, stack))
		}
		want, e := frames.Join(w, l...)
		cut := r.Intn(len(l) + 1)
		left, _ := frames.Join(w, l[:cut]...)
		right, _ := frames.Join(w, l[cut:]...)
		if got, err := frames.Join(w, left, right); e != api.OK || err != api.OK || !frames.Same(got, want) {
			t.Fatalf("%v, by brackets at %d: %v, wanted %v", l, cut, got, want)
		}
		mixed := append(slices.Clone(l), l[r.Intn(len(l))])
		r.Shuffle(len(mixed), func(i, j int) { mixed[i], mixed[j] = mixed[j], mixed[i] })
		if got, _ := frames.Join(w, mixed...); !frames.Same(got, want) {
			t.Fatalf("%v: %v, wanted %v as of %v", mixed, got, want, l)
		}
		a, b := l[0], l[len(l)-1]
		if up, _ := frames.Join(w, a, b); frames.Below(w, a, b) != frames.Same(up, b) {
			t.Fatalf("%v, %v: below and join are at odds", a, b)
		}
	}
}

// P805: Catch keeps the order, and so does Swap of what is fresh by nothing known.
func TestOrderIsKept(t *testing.T) {
	w := world(t, family()...)
	all := everyFrame()
	r := rand.New(rand.NewSource(8))
	keeps := func(a, b api.Frame) {
		t.Helper()
		if !frames.Below(w, frames.Catch(a, "DivError"), frames.Catch(b, "DivError")) {
			t.Fatalf("Catch of %v, %v", a, b)
		}
		for _, x := range row(fresh(0, "A"), fresh(7, "A"), fresh(7, "B")) {
			if !frames.Below(w, frames.Swap(a, x, top), frames.Swap(b, x, top)) {
				t.Fatalf("Swap of %v, %v, %v", a, b, x)
			}
		}
	}
	for _, a := range all {
		for _, b := range all {
			if frames.Below(w, a, b) {
				keeps(a, b)
			}
		}
	}
	for range 10000 {
		a := someFrame(r, r.Intn(4), r.Intn(4))
		keeps(a, raised(r, w, a))
	}
}
