package lattice_test

import (
	"math"
	"math/rand"
	"slices"
	"strconv"
	"strings"
	"testing"

	"keystone/api"
	"keystone/desc"
	"keystone/hier"
	"keystone/lattice"
)

// P701: the order, pair by pair: what the one is to the other one, and what their join is.
func TestPairs(t *testing.T) {
	w := world(t, family()...)
	for _, c := range []struct {
		a, b, join api.VType
	}{
		// the examples
		{null, ref("LA;"), ref("LA;")},
		{num, null, top},
		{fresh(3, "A"), fresh(3, "A"), fresh(3, "A")},
		{fresh(3, "A"), fresh(5, "A"), top},
		{ref("LI;"), ref("LK;"), ref("LObject;")},
		{ref("[I"), ref("[LA;"), ref("LObject;")},
		// nil beside every kind
		{null, null, null},
		{null, top, top},
		{null, ref("LI;"), ref("LI;")},
		{null, ref("LObject;"), ref("LObject;")},
		{null, ref("[I"), ref("[I")},
		{null, ref("[[[[[[[[LA;"), ref("[[[[[[[[LA;")},
		{null, fresh(3, "A"), top},
		{null, self("A"), top},
		// numbers and nothing
		{num, num, num},
		{num, top, top},
		{top, top, top},
		{num, ref("LObject;"), top},
		{num, ref("[I"), top},
		{num, fresh(0, "A"), top},
		{num, self("A"), top},
		// classes
		{ref("LB;"), ref("LA;"), ref("LA;")},
		{ref("LB;"), ref("LC;"), ref("LA;")},
		{ref("LB;"), ref("LD;"), ref("LA;")},
		{ref("LD;"), ref("LA;"), ref("LA;")},
		{ref("LD;"), ref("LObject;"), ref("LObject;")},
		{ref("LD;"), ref("LE;"), ref("LObject;")},
		{ref("LDivError;"), ref("LNilError;"), ref("LThrowable;")},
		{ref("LDivError;"), ref("LA;"), ref("LObject;")},
		{ref("LA;"), top, top},
		// interfaces: Object alone is above them
		{ref("LI;"), ref("LI;"), ref("LI;")},
		{ref("LI;"), ref("LJ;"), ref("LObject;")},
		{ref("LA;"), ref("LI;"), ref("LObject;")},
		{ref("LB;"), ref("LI;"), ref("LObject;")},
		{ref("LI;"), ref("LObject;"), ref("LObject;")},
		// arrays
		{ref("[LA;"), ref("[LA;"), ref("[LA;")},
		{ref("[LB;"), ref("[LA;"), ref("LObject;")},
		{ref("[I"), ref("[[I"), ref("LObject;")},
		{ref("[LObject;"), ref("[[I"), ref("LObject;")},
		{ref("[LObject;"), ref("LObject;"), ref("LObject;")},
		{ref("[LA;"), ref("LA;"), ref("LObject;")},
		{ref("[LObject;"), ref("LA;"), ref("LObject;")},
		{ref("[I"), ref("LI;"), ref("LObject;")},
		{ref("[I"), top, top},
		// objects that are not initialised
		{fresh(3, "A"), fresh(3, "B"), top},
		{fresh(3, "A"), ref("LA;"), top},
		{fresh(3, "A"), ref("LObject;"), top},
		{fresh(0, "A"), self("A"), top},
		{fresh(3, "A"), top, top},
		{self("A"), self("A"), self("A")},
		{self("B"), self("A"), top},
		{self("A"), ref("LA;"), top},
		{self("A"), top, top},
	} {
		for _, l := range [][]api.VType{{c.a, c.b}, {c.b, c.a}, {c.a, c.b, c.a}, {c.b, c.b, c.a, c.a}} {
			if got := lattice.Join(w, l...); got != c.join {
				t.Errorf("Join %v: %v, wanted %v", l, got, c.join)
			}
		}
		if got := lattice.Below(w, c.a, c.b); got != (c.join == c.b) {
			t.Errorf("Below %v, %v: %v", c.a, c.b, got)
		}
		if got := lattice.Below(w, c.b, c.a); got != (c.join == c.a) {
			t.Errorf("Below %v, %v: %v", c.b, c.a, got)
		}
	}
}

// P701: the join of none, of one alone, of many.
func TestJoinOfMany(t *testing.T) {
	w := world(t, family()...)
	if got := lattice.Join(w); got != (api.VType{}) {
		t.Errorf("of none: %v", got)
	}
	if got := lattice.Join(w, []api.VType{}...); got != (api.VType{}) {
		t.Errorf("of an empty list: %v", got)
	}
	for _, a := range allKnown(w) {
		if got := lattice.Join(w, a); got != a {
			t.Errorf("of %v alone: %v", a, got)
		}
	}
	for _, c := range []struct {
		l    []api.VType
		want api.VType
	}{
		{[]api.VType{null, null, null}, null},
		{[]api.VType{null, ref("LB;"), null, ref("LD;")}, ref("LA;")},
		{[]api.VType{ref("LD;"), ref("LB;"), ref("LE;")}, ref("LObject;")},
		{[]api.VType{ref("LD;"), ref("LC;"), ref("LD;")}, ref("LC;")},
		{[]api.VType{ref("[I"), null, ref("[I")}, ref("[I")},
		{[]api.VType{ref("LD;"), ref("[I"), ref("LD;")}, ref("LObject;")},
		{[]api.VType{ref("LD;"), ref("[I"), num}, top},
		{[]api.VType{top, ref("LD;"), ref("LD;")}, top},
		{[]api.VType{fresh(1, "A"), fresh(1, "A"), null}, top},
	} {
		if got := lattice.Join(w, c.l...); got != c.want {
			t.Errorf("%v: %v, wanted %v", c.l, got, c.want)
		}
	}
	long := slices.Repeat([]api.VType{null, ref("LB;"), ref("LD;")}, 10000)
	if got := lattice.Join(w, long...); got != ref("LA;") {
		t.Errorf("of many: %v", got)
	}
}

// P701: all pairs, and rows of some, of worlds of all forms, held against the words of W8.
func TestAgainstTheBook(t *testing.T) {
	families(t, 1, 25, func(r *rand.Rand, w *hier.World, l []api.Class) {
		b, all := bookOf(l), allKnown(w)
		for _, x := range all {
			for _, y := range all {
				if got, want := lattice.Below(w, x, y), b.below(x, y); got != want {
					t.Fatalf("Below %v, %v: %v", x, y, got)
				}
			}
		}
		for range 400 {
			some := someKnown(r, w, r.Intn(5))
			if r.Intn(2) == 0 { // so that joins stay below top
				some = slices.DeleteFunc(some, func(a api.VType) bool { return a.Kind != api.VRef && a.Kind != api.VNil })
			}
			if got, want := lattice.Join(w, some...), b.join(all, some...); got != want {
				t.Fatalf("Join %v: %v, wanted %v", some, got, want)
			}
		}
	})
}

// P702: each kind, where a number and where an object is wanted.
func TestFits(t *testing.T) {
	w := world(t, family()...)
	for _, c := range []struct {
		a    api.VType
		t    string
		want api.Errno
	}{
		{num, "I", api.OK},
		{null, "I", api.ErrWrong},
		{ref("LA;"), "I", api.ErrWrong},
		{ref("[I"), "I", api.ErrWrong},
		{fresh(3, "A"), "I", api.ErrWrong},
		{self("A"), "I", api.ErrWrong},
		{top, "I", api.ErrWrong},

		{num, "LObject;", api.ErrWrong},
		{num, "[I", api.ErrWrong},
		{top, "LObject;", api.ErrWrong},
		{top, "[I", api.ErrWrong},
		{null, "LA;", api.OK},
		{null, "LI;", api.OK},
		{null, "[I", api.OK},
		{fresh(3, "A"), "LA;", api.ErrInit},
		{fresh(3, "A"), "LObject;", api.ErrInit},
		{fresh(3, "A"), "LE;", api.ErrInit},
		{fresh(3, "A"), "[I", api.ErrInit},
		{self("A"), "LA;", api.ErrInit},
		{self("A"), "LI;", api.ErrInit},
		{self("A"), "[LA;", api.ErrInit},

		{ref("LA;"), "LI;", api.OK}, // the example: by the order it is not below
		{ref("LB;"), "LI;", api.OK},
		{ref("LD;"), "LK;", api.OK},
		{ref("LE;"), "LI;", api.OK},
		{ref("LJ;"), "LI;", api.OK},
		{ref("LI;"), "LJ;", api.ErrWrong},
		{ref("LI;"), "LA;", api.ErrWrong},
		{ref("LI;"), "LObject;", api.OK},
		{ref("LObject;"), "LI;", api.ErrWrong},
		{ref("LB;"), "LK;", api.ErrWrong},
		{ref("LB;"), "LB;", api.OK},
		{ref("LB;"), "LA;", api.OK},
		{ref("LB;"), "LC;", api.ErrWrong},
		{ref("LA;"), "LB;", api.ErrWrong},
		{ref("LB;"), "LObject;", api.OK},
		{ref("[I"), "LObject;", api.OK},
		{ref("[I"), "[I", api.OK},
		{ref("[I"), "[[I", api.ErrWrong},
		{ref("[[I"), "[LObject;", api.ErrWrong},
		{ref("[LB;"), "[LA;", api.ErrWrong},
		{ref("[LA;"), "LA;", api.ErrWrong},
		{ref("LA;"), "[LA;", api.ErrWrong},
		{ref("LObject;"), "[I", api.ErrWrong},
	} {
		if e := lattice.Fits(w, c.a, typ(c.t)); e != c.want {
			t.Errorf("%v, %s: %v, wanted %v", c.a, c.t, e, c.want)
		}
	}
	if lattice.Below(w, ref("LA;"), ref("LI;")) {
		t.Error("by the order an interface is above a class")
	}
}

// P702: references fit just as hier says of their types.
func TestFitsAsSub(t *testing.T) {
	families(t, 2, 15, func(r *rand.Rand, w *hier.World, l []api.Class) {
		for _, a := range allKnown(w) {
			for _, b := range allKnown(w) {
				if a.Kind != api.VRef || b.Kind != api.VRef {
					continue
				}
				e := lattice.Fits(w, a, b.Type)
				if sub := w.Sub(a.Type, b.Type); sub != (e == api.OK) || !sub && e != api.ErrWrong {
					t.Fatalf("%v, %v: %v, %v", a, b.Type, sub, e)
				}
			}
		}
	})
}

// P703: what a type declares, as it is, right or not.
func TestOf(t *testing.T) {
	if got := lattice.Of(api.Type{}); got != num {
		t.Errorf("a number: %v", got)
	}
	for _, s := range []string{"LA;", "[I", "[[LA;", "LNone;"} {
		if got := lattice.Of(typ(s)); got != ref(s) {
			t.Errorf("%s: %v", s, got)
		}
	}
	for _, x := range oddTypes() {
		want := api.VType{Kind: api.VRef, Type: x}
		if desc.Number(x) {
			want = num
		}
		if got := lattice.Of(x); got != want {
			t.Errorf("%v: %v", x, got)
		}
	}
}

// P703: the Kind alone says whether it holds an object.
func TestHolds(t *testing.T) {
	for _, a := range oddKnown() {
		want := a.Kind == 2 || a.Kind == 3 || a.Kind == 4 || a.Kind == 5
		if got := lattice.Holds(a); got != want {
			t.Errorf("%v: %v", a, got)
		}
	}
}

// P703: texts of what is right.
func TestText(t *testing.T) {
	for _, c := range []struct {
		a    api.VType
		want string
	}{
		{api.VType{}, "none"},
		{num, "num"},
		{null, "nil"},
		{top, "top"},
		{ref("LA;"), "ref LA;"},
		{ref("[I"), "ref [I"},
		{ref("[[[[[[[[LA;"), "ref [[[[[[[[LA;"},
		{fresh(3, "A"), "fresh 3 A"},
		{fresh(0, "Node"), "fresh 0 Node"},
		{fresh(1023, "A"), "fresh 1023 A"},
		{self("B"), "self B"},
		// what may not be
		{ref("I"), "ref I"},
		{api.VType{Kind: api.VRef, Type: api.Type{Dims: 9}}, "?"},
		{api.VType{Kind: api.VRef, Type: api.Type{Dims: -1, Name: "A"}}, "?"},
		{api.VType{Kind: api.VRef, Type: api.Type{Name: "1"}}, "?"},
		{api.VType{Kind: api.VRef, Type: api.Type{Name: "A"}, At: 5}, "ref LA;"},
		{api.VType{Kind: api.VFresh, Type: api.Type{Dims: 9, Name: "a b"}, At: -4}, "fresh -4 a b"},
		{api.VType{Kind: api.VFresh}, "fresh 0 "},
		{api.VType{Kind: api.VFresh, At: math.MinInt64}, "fresh -9223372036854775808 "},
		{api.VType{Kind: api.VSelf}, "self "},
		{api.VType{Kind: api.VSelf, Type: api.Type{Dims: 2, Name: "\xff"}, At: 3}, "self \xff"},
		{api.VType{Kind: api.VNum, Type: api.Type{Dims: 9, Name: "A"}, At: 3}, "num"},
		{api.VType{Kind: api.VNil, Type: api.Type{Name: "A"}}, "nil"},
		{api.VType{Kind: api.VTop, At: -1}, "top"},
		{api.VType{Kind: api.VNone, At: 7, Type: api.Type{Name: "1"}}, "none"},
		{api.VType{Kind: 7}, "?"},
		{api.VType{Kind: -1}, "?"},
		{api.VType{Kind: 9, Type: api.Type{Name: "A"}}, "?"},
	} {
		if got := lattice.Text(c.a); got != c.want {
			t.Errorf("%v: %q, wanted %q", c.a, got, c.want)
		}
	}
}

// P703: texts of anything at all, put together another way.
func TestTextOfAnything(t *testing.T) {
	words := map[int]string{0: "none", 1: "num", 2: "nil", 6: "top"}
	for _, a := range oddKnown() {
		want, plain := words[a.Kind]
		if !plain {
			want = "?"
		}
		switch a.Kind {
		case api.VRef:
			if s, e := desc.TypeText(a.Type); e == api.OK {
				want = strings.Join([]string{"ref", s}, " ")
			}
		case api.VFresh:
			want = strings.Join([]string{"fresh", strconv.FormatInt(int64(a.At), 10), a.Type.Name}, " ")
		case api.VSelf:
			want = strings.Join([]string{"self", a.Type.Name}, " ")
		}
		if got := lattice.Text(a); got != want {
			t.Errorf("%v: %q, wanted %q", a, got, want)
		}
	}
}
