package frames_test

import (
	"fmt"
	"math"
	"math/rand"
	"slices"
	"testing"

	"keystone/api"
	"keystone/desc"
	"keystone/frames"
)

// P801: two frames: what the one is to the other one, and what their join is.
func TestPairs(t *testing.T) {
	w := world(t, family()...)
	none := api.Frame{}
	a, b := ref("LA;"), ref("LB;")
	for _, c := range []struct {
		a, b, join api.Frame
	}{
		// the example, on the Stack and in the Locals
		{of(top, nil, row(num)), of(top, nil, row(null)), of(top, nil, row(top))},
		{of(top, row(num), nil), of(top, row(null), nil), of(top, row(top), nil)},
		// not reached, beside others
		{none, none, none},
		{none, of(top, nil, nil), of(top, nil, nil)},
		{none, of(top, row(num, b), row(null)), of(top, row(num, b), row(null))},
		// without places
		{of(top, nil, nil), of(top, nil, nil), of(top, nil, nil)},
		{of(top, row(), row()), of(top, nil, nil), of(top, nil, nil)},
		// Self counts as a place
		{of(self("A"), nil, nil), of(self("A"), nil, nil), of(self("A"), nil, nil)},
		{of(self("A"), nil, nil), of(top, nil, nil), of(top, nil, nil)},
		{of(self("A"), nil, nil), of(a, nil, nil), of(top, nil, nil)},
		{of(b, nil, nil), of(a, nil, nil), of(a, nil, nil)},
		{of(self("A"), row(self("A")), nil), of(self("A"), row(a), nil), of(self("A"), row(top), nil)},
		{of(self("A"), row(a), row(num)), of(a, row(a), row(num)), of(top, row(a), row(num))},
		// one place is below, another one above
		{of(top, row(b, a), nil), of(top, row(a, b), nil), of(top, row(a, a), nil)},
		{of(top, row(b), row(a)), of(top, row(a), row(b)), of(top, row(a), row(a))},
		{of(top, nil, row(null, num, b)), of(top, nil, row(ref("[I"), num, ref("LC;"))), of(top, nil, row(ref("[I"), num, a))},
		// the last place alone is another one
		{of(top, row(num, num), row(num, null)), of(top, row(num, num), row(num, a)), of(top, row(num, num), row(num, a))},
		{of(top, row(fresh(3, "A")), row(fresh(3, "A"))), of(top, row(fresh(3, "A")), row(fresh(5, "A"))), of(top, row(fresh(3, "A")), row(top))},
	} {
		for _, l := range [][]api.Frame{{c.a, c.b}, {c.b, c.a}, {c.a, none, c.b, none}, {none, c.b, c.b, c.a, c.a}} {
			if got, e := frames.Join(w, l...); e != api.OK || text(got) != text(c.join) {
				t.Errorf("Join %v: %v, %v, wanted %v", l, got, e, c.join)
			}
		}
		if got := frames.Below(w, c.a, c.b); got != (text(c.join) == text(c.b)) {
			t.Errorf("Below %v, %v: %v", c.a, c.b, got)
		}
		if got := frames.Below(w, c.b, c.a); got != (text(c.join) == text(c.a)) {
			t.Errorf("Below %v, %v: %v", c.b, c.a, got)
		}
	}
}

// P801: frames of unlike numbers of places: neither is below the other one, and they have no join, wherever they stand in the row.
func TestUnlike(t *testing.T) {
	w := world(t, family()...)
	for _, c := range []struct{ a, b api.Frame }{
		{of(top, nil, row(num)), of(top, nil, nil)}, // the example
		{of(top, row(num), nil), of(top, nil, nil)},
		{of(top, row(num), nil), of(top, nil, row(num))},
		{of(top, row(num, num), row(num)), of(top, row(num), row(num, num))},
		{of(top, row(num), row(num, num)), of(top, row(num), row(num, num, num))},
		{of(top, row(top, top), row(num)), of(top, row(top), row(num))},
		{of(top, row(top), row(top)), of(top, row(num), nil)},
	} {
		if frames.Below(w, c.a, c.b) || frames.Below(w, c.b, c.a) {
			t.Errorf("%v, %v: one is below the other one", c.a, c.b)
		}
		none := api.Frame{}
		for _, l := range [][]api.Frame{{c.a, c.b}, {c.b, c.a}, {c.a, c.a, none, c.b}, {none, c.b, c.b, c.a, c.b}} {
			if got, e := frames.Join(w, l...); e != api.ErrJoin || text(got) != text(none) {
				t.Errorf("Join %v: %v, %v", l, got, e)
			}
		}
	}
}

// P801: the join of none, of one alone, of such as are not reached, of many.
func TestJoinOfSome(t *testing.T) {
	w := world(t, family()...)
	none := api.Frame{}
	for _, l := range [][]api.Frame{nil, {}, {none}, {none, none, none}} {
		if got, e := frames.Join(w, l...); e != api.OK || text(got) != text(none) {
			t.Errorf("of %v: %v, %v", l, got, e)
		}
	}
	f := of(self("A"), row(num, null), row(fresh(2, "B")))
	for _, l := range [][]api.Frame{{f}, {none, f}, {f, none}, {f, f, none, f}} {
		if got, e := frames.Join(w, l...); e != api.OK || text(got) != text(f) {
			t.Errorf("of %v: %v, %v", l, got, e)
		}
	}
	many := slices.Repeat([]api.Frame{of(top, row(ref("LB;")), row(null)), none, of(top, row(ref("LD;")), row(ref("LC;")))}, 5000)
	if got, e := frames.Join(w, many...); e != api.OK || text(got) != text(of(top, row(ref("LA;")), row(ref("LC;")))) {
		t.Errorf("of many: %v, %v", got, e)
	}
	wide := of(top, slices.Repeat(row(ref("LB;")), api.MaxLocals), slices.Repeat(row(num), api.MaxStack))
	other := of(top, slices.Repeat(row(ref("LC;")), api.MaxLocals), slices.Repeat(row(num), api.MaxStack))
	want := of(top, slices.Repeat(row(ref("LA;")), api.MaxLocals), slices.Repeat(row(num), api.MaxStack))
	if got, e := frames.Join(w, wide, other); e != api.OK || text(got) != text(want) {
		t.Errorf("of wide ones: %v, %v", got, e)
	}
}

// P801: random frames, held against the chapter's words over one row of places.
func TestAgainstTheBook(t *testing.T) {
	w := world(t, family()...)
	r := rand.New(rand.NewSource(1))
	for range 20000 {
		locals, stack := r.Intn(3), r.Intn(3)
		var l []api.Frame
		for range r.Intn(4) {
			l = append(l, someFrame(r, locals, stack))
		}
		if r.Intn(5) == 0 {
			l = append(l, someFrame(r, r.Intn(3), r.Intn(3)))
		}
		want, err := bookJoin(w, l)
		if got, e := frames.Join(w, l...); e != err || text(got) != text(want) {
			t.Fatalf("Join %v: %v, %v, wanted %v, %v", l, got, e, want, err)
		}
		for _, a := range append(l, want) {
			for _, b := range append(l, want) {
				if got := frames.Below(w, a, b); got != bookBelow(w, a, b) {
					t.Fatalf("Below %v, %v: %v", a, b, got)
				}
			}
		}
	}
}

// P802: the examples, and one method of each sort.
func TestEntry(t *testing.T) {
	w := world(t, family()...)
	for _, c := range []struct {
		class  string
		method int
		want   api.Frame
	}{
		{"A", 0, of(top, row(num, top, top), nil)},
		{"A", 1, of(self("A"), row(self("A")), nil)},
		{"A", 2, of(self("A"), row(self("A"), num, ref("[LB;"), top, top), nil)},
		{"A", 3, of(top, row(ref("LA;"), ref("LB;"), num, ref("[[I")), nil)},
		{"A", 4, of(top, nil, nil)},
		{"B", 0, of(top, row(ref("LB;"), top), nil)},
		{"E", 1, of(top, row(ref("LE;")), nil)},
	} {
		if got, e := frames.Entry(w, c.class, c.method); e != api.OK || text(got) != text(c.want) {
			t.Errorf("%s %d: %v, %v, wanted %v", c.class, c.method, got, e, c.want)
		}
	}
}

// P802: classes that are not there, numbers of no method, methods without code: abstract ones, and those that are there from the beginning.
func TestEntryOfNone(t *testing.T) {
	w := world(t, family()...)
	for _, c := range []struct {
		class  string
		method int
	}{
		{"X", 0}, {"", 0}, {"a b", 0}, {"<init>", 0}, {"[I", 0}, {"LA;", 0}, {"X", -1},
		{"A", -1}, {"A", 5}, {"A", math.MaxInt}, {"A", math.MinInt}, {"A", 1 << 32},
		{"C", 0}, {"D", 0}, {"B", 1}, {"B", 3}, // a class above has it
		{"E", 0}, {"E", 2}, {"I", 0}, {"I", 1},
		{"Object", 0}, {"Object", 1}, {"Throwable", 0}, {"DivError", 0}, {"HeapError", -1},
	} {
		if got, e := frames.Entry(w, c.class, c.method); e != api.ErrMember || text(got) != text(api.Frame{}) {
			t.Errorf("%s %d: %v, %v", c.class, c.method, got, e)
		}
	}
}

// someMethod is one of any signature and any number of Locals, static or not; sometimes, if it may be, a constructor.
func someMethod(r *rand.Rand, name string) api.Method {
	types := []api.Type{{}, {}, {Dims: 1}, {Name: "A"}, {Name: "I"}, {Dims: 8, Name: "Object"}}
	m := method(api.FStatic*r.Intn(2), name, "()V", 0)
	for range r.Intn(api.MaxParams + 1) {
		m.Sig.Params = append(m.Sig.Params, types[r.Intn(len(types))])
	}
	m.Locals = len(m.Sig.Params)
	if m.Flags == 0 {
		m.Locals++
		if r.Intn(2) == 0 {
			m.Name = "<init>"
		}
	}
	if r.Intn(3) > 0 { // Locals behind the parameters
		m.Locals += r.Intn(api.MaxLocals - m.Locals + 1)
	}
	return m
}

// P802: methods of all sorts, held against the chapter's words.
func TestEntryAgainstTheBook(t *testing.T) {
	r := rand.New(rand.NewSource(2))
	for range 60 {
		var l []api.Method
		for i := range api.MaxMethods {
			m := someMethod(r, fmt.Sprint("m", i))
			if !slices.ContainsFunc(l, func(o api.Method) bool { return o.Name == m.Name && desc.Same(o.Sig, m.Sig) }) {
				l = append(l, m)
			}
		}
		w := world(t, class(0, "A", "Object", l...), class(api.FFace, "I", "Object"))
		for i, m := range l {
			got, e := frames.Entry(w, "A", i)
			if want := bookEntry("A", m); e != api.OK || text(got) != text(want) {
				t.Fatalf("%v: %v, %v, wanted %v", m, got, e, want)
			}
			if len(got.Locals) != m.Locals || len(got.Stack) != 0 {
				t.Fatalf("%v: %d Locals, %d on the Stack", m, len(got.Locals), len(got.Stack))
			}
		}
	}
}
