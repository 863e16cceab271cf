package frames_test

import (
	"math"
	"math/rand"
	"slices"
	"testing"

	"keystone/api"
	"keystone/frames"
)

// P803: whether a frame is reached hangs on Self's Kind alone.
func TestReached(t *testing.T) {
	for _, a := range odd {
		for _, l := range [][]api.VType{nil, row(num), row(api.VType{})} {
			if got := frames.Reached(of(a, l, l)); got != (a.Kind != 0) {
				t.Errorf("%v, %v: %v", a, l, got)
			}
		}
	}
	if frames.Reached(api.Frame{}) {
		t.Error("Frame{} is reached")
	}
}

// P803: what a handler begins with: Self and Locals as they were, the exception alone on the Stack.
func TestCatch(t *testing.T) {
	for _, c := range []struct {
		f    api.Frame
		want api.Frame
	}{
		{of(top, nil, nil), of(top, nil, row(ref("LDivError;")))},
		{of(top, row(num, top), row(num, null, ref("LA;"))), of(top, row(num, top), row(ref("LDivError;")))},
		{of(self("A"), row(self("A"), fresh(3, "B")), row(fresh(3, "B"))), of(self("A"), row(self("A"), fresh(3, "B")), row(ref("LDivError;")))},
		{of(top, row(num), row(ref("LDivError;"))), of(top, row(num), row(ref("LDivError;")))},
		{api.Frame{}, api.Frame{}},
		// what may not be
		{of(api.VType{}, row(num), row(num)), api.Frame{}},
		{of(api.VType{Type: api.Type{Name: "A"}, At: 3}, nil, row(num)), api.Frame{}},
		{of(api.VType{Kind: -1}, row(api.VType{}), nil), of(api.VType{Kind: -1}, row(api.VType{}), row(ref("LDivError;")))},
	} {
		if got := frames.Catch(c.f, "DivError"); text(got) != text(c.want) {
			t.Errorf("%v: %v, wanted %v", c.f, got, c.want)
		}
	}
	for _, s := range []string{"Object", "X", "", "a b", "[I", "\xff"} {
		want := of(top, row(num), row(api.VType{Kind: api.VRef, Type: api.Type{Name: s}}))
		if got := frames.Catch(of(top, row(num), row(num)), s); text(got) != text(want) {
			t.Errorf("of class %q: %v", s, got)
		}
	}
}

// P803: Swap's edges: everywhere, Self too; just what is the same; once.
func TestSwap(t *testing.T) {
	f3, f5, a := fresh(3, "A"), fresh(5, "A"), ref("LA;")
	for _, c := range []struct {
		f        api.Frame
		from, to api.VType
		want     api.Frame
	}{
		{of(top, row(f3, num, f3), row(f3, f5)), f3, a, of(top, row(a, num, a), row(a, f5))},
		{of(self("A"), row(self("A")), row(num, self("A"))), self("A"), a, of(a, row(a), row(num, a))},
		{of(self("A"), row(self("B")), nil), self("A"), a, of(a, row(self("B")), nil)},
		{of(top, row(f3), row(f3)), fresh(3, "B"), a, of(top, row(f3), row(f3))},
		{of(top, row(f3), nil), f5, a, of(top, row(f3), nil)},
		{of(top, row(ref("[LA;"), a), nil), a, num, of(top, row(ref("[LA;"), num), nil)},
		{of(top, row(num, null), row(null, num)), num, null, of(top, row(null, null), row(null, null))},
		{of(top, row(num), row(top)), top, num, of(num, row(num), row(num))},
		{of(top, row(num), row(top)), num, num, of(top, row(num), row(top))},
		{of(top, nil, nil), num, a, of(top, nil, nil)},
		{api.Frame{}, f3, top, api.Frame{}},
		// what may not be
		{api.Frame{}, api.VType{}, top, of(top, nil, nil)},
		{of(api.VType{}, row(num), row(num)), num, top, of(api.VType{}, row(top), row(top))},
		{of(top, row(num), row(top)), top, api.VType{}, of(api.VType{}, row(num), row(api.VType{}))},
		{of(api.VType{Kind: 9, At: -1}, nil, nil), api.VType{Kind: 9}, num, of(api.VType{Kind: 9, At: -1}, nil, nil)},
		{of(api.VType{Kind: 9, At: -1}, nil, nil), api.VType{Kind: 9, At: -1}, num, of(num, nil, nil)},
	} {
		if got := frames.Swap(c.f, c.from, c.to); text(got) != text(c.want) {
			t.Errorf("%v, %v, %v: %v, wanted %v", c.f, c.from, c.to, got, c.want)
		}
	}
}

// P803: of any frames, place by place.
func TestSwapAnywhere(t *testing.T) {
	r := rand.New(rand.NewSource(3))
	for range 20000 {
		f := oddFrame(r)
		places := slices.Concat(row(f.Self), f.Locals, f.Stack)
		from, to := places[r.Intn(len(places))], some(r, odd, 1)[0]
		if r.Intn(4) == 0 {
			from.At++
		}
		for i, a := range places {
			if a == from {
				places[i] = to
			}
		}
		n := len(f.Locals) + 1
		want := of(places[0], places[1:n], places[n:])
		if got := frames.Swap(f, from, to); text(got) != text(want) {
			t.Fatalf("%v, %v, %v: %v, wanted %v", f, from, to, got, want)
		}
	}
}

// different are frames that are all unlike, reached or not, right or not.
func different() []api.Frame {
	full := of(ref("LA;"), row(num, fresh(3, "A")), row(null))
	l := []api.Frame{
		{}, full,
		of(top, nil, nil), of(self("A"), nil, nil), of(api.VType{Kind: math.MinInt}, nil, nil),
		of(api.VType{At: 1}, nil, nil), of(api.VType{Type: api.Type{Dims: 1}}, nil, nil), of(api.VType{Type: api.Type{Name: "A"}}, nil, nil),
		of(api.VType{}, row(num), nil), of(api.VType{}, nil, row(num)), of(api.VType{}, row(api.VType{}), nil),
		of(top, row(num), nil), of(top, nil, row(num)), of(top, row(num, num), nil), of(top, row(num), row(num)), of(top, nil, row(num, num)),
		of(top, row(num, null), nil), of(top, row(null, num), nil), of(top, nil, row(null, num)),
	}
	for _, change := range []func(a *api.VType){
		func(a *api.VType) { a.Kind += 10 },
		func(a *api.VType) { a.At++ },
		func(a *api.VType) { a.Type.Dims++ },
		func(a *api.VType) { a.Type.Name += "x" },
	} {
		for i := range 4 { // each field of each place
			f := of(full.Self, slices.Clone(full.Locals), slices.Clone(full.Stack))
			change([]*api.VType{&f.Self, &f.Locals[0], &f.Locals[1], &f.Stack[0]}[i])
			l = append(l, f)
		}
	}
	return l
}

// P804: a frame is the same as itself, and as its twin, and as no other one.
func TestSame(t *testing.T) {
	l := different()
	for i, a := range l {
		for j, b := range l {
			if frames.Same(a, b) != (i == j) || frames.Same(a, frames.Twin(b)) != (i == j) {
				t.Errorf("%v, %v: %v", a, b, frames.Same(a, b))
			}
		}
		if got := frames.Twin(a); text(got) != text(a) {
			t.Errorf("the twin of %v: %v", a, got)
		}
	}
	if !frames.Same(of(top, nil, nil), of(top, row(), make([]api.VType, 0, 4))) {
		t.Error("no row and an empty one are not the same")
	}
	if !frames.Same(of(api.VType{}, row(), row()), api.Frame{}) {
		t.Error("empty rows, not reached: not Frame{}")
	}
}

// P804: of any frames.
func TestSameAnywhere(t *testing.T) {
	r := rand.New(rand.NewSource(4))
	for range 5000 {
		a, b := oddFrame(r), oddFrame(r)
		if frames.Same(a, b) != (text(a) == text(b)) || !frames.Same(a, frames.Twin(a)) || text(frames.Twin(a)) != text(a) {
			t.Fatalf("%v, %v", a, b)
		}
	}
}
