package hier_test

import (
	"slices"
	"strconv"
	"strings"
	"testing"

	"keystone/api"
	"keystone/hier"
	"keystone/pool"
)

const givenNames = "Object Throwable NilError BoundsError CastError DivError DepthError HeapError"

// named holds the names of a world, those that are given left out, against what is wanted.
func named(t *testing.T, w *hier.World, want ...string) {
	t.Helper()
	if l := w.Names(); !slices.Equal(l, append(strings.Fields(givenNames), want...)) {
		t.Errorf("%v, wanted %v", l, want)
	}
}

// refuses holds Add against an error, behind which nothing is another one: P601, P5.
func refuses(t *testing.T, w *hier.World, m api.Module, want api.Errno) {
	t.Helper()
	was, linked := w.Names(), w.Linked()
	if e := w.Add(m); e != want {
		t.Errorf("Add: %v, wanted %v", e, want)
	}
	if !slices.Equal(w.Names(), was) || w.Linked() != linked {
		t.Errorf("%v, were %v", w.Names(), was)
	}
}

func pack(l ...api.Class) api.Module { return api.Module{Classes: l} }

// row is so many classes without anything, named by numbers from one on.
func row(from, n int) []api.Class {
	var l []api.Class
	for i := range n {
		l = append(l, class("R"+strconv.Itoa(from+i), "Object"))
	}
	return l
}

// P601, P603: the world of W4, and nobody else's.
func TestNew(t *testing.T) {
	w, other := hier.New(), hier.New()
	named(t, w)
	if w.Linked() {
		t.Error("linked")
	}
	adds(t, w, class("A", "Object"))
	w.Link()
	named(t, other)
	if other.Linked() || !w.Linked() {
		t.Errorf("%v, %v", other.Linked(), w.Linked())
	}
}

// P603, W4: the classes that are given: no flags, no fields, no faces, no pool, one method.
func TestGivenClasses(t *testing.T) {
	for _, link := range []bool{false, true} {
		w := hier.New()
		if link {
			w.Link()
		}
		for i, name := range strings.Fields(givenNames) {
			super := "Throwable"
			if i < 2 {
				super = []string{"", "Object"}[i]
			}
			want := api.Class{Name: name, Super: super, Methods: []api.Method{{Name: "<init>", Sig: api.Sig{Void: true}}}}
			if c, l, ok := w.Class(name); image(c, false) != image(want, false) || len(l) != 0 || !ok {
				t.Errorf("%v, %v, %v", c, l, ok)
			}
		}
	}
}

// P601, P603: classes are there behind the others, as they came, each with its own module's pool.
func TestAddAndClass(t *testing.T) {
	b := pool.New()
	b.Number(5)
	b.Type(typ("[LB;"))
	first := api.Module{Pool: b.Pool(), Classes: []api.Class{class("B", "A", "I", field(0, "x", "[LB;"), does(0, "f", "(I)LA;")), class("A", "Object")}}
	b.Class("C")
	second := api.Module{Pool: b.Pool(), Classes: []api.Class{face("I", owes("f", "(I)LA;"))}}
	third := api.Module{Classes: []api.Class{open("C", "B", owes("g", "()V"))}}
	w := hier.New()
	for _, m := range []api.Module{first, {}, second, {Pool: b.Pool()}, third} {
		if e := w.Add(m); e != api.OK {
			t.Fatal(e)
		}
	}
	for range 2 {
		named(t, w, "B", "A", "I", "C")
		for _, m := range []api.Module{first, second, third} {
			for _, c := range m.Classes {
				if x, l, ok := w.Class(c.Name); !ok || image(x, false) != image(c, false) || image(l, false) != image(m.Pool, false) {
					t.Errorf("%s: %v, %v, %v", c.Name, x, l, ok)
				}
			}
		}
		for _, name := range []string{"X", "", "<init>", "b", "Object ", "LA;"} {
			if c, l, ok := w.Class(name); image(c, false) != image(api.Class{}, false) || len(l) != 0 || ok {
				t.Errorf("%q: %v, %v", name, c, l)
			}
		}
		if s, e := w.Link(); e != api.OK && e != api.ErrLinked {
			t.Fatal(s, e)
		}
	}
}

// P601: what module.Check refuses is refused with its error.
func TestAddWhatIsNoModule(t *testing.T) {
	w := hier.New()
	adds(t, w, class("A", "Object"))
	bad := face("I")
	bad.Super = "A"
	many := row(0, 65)
	for _, x := range []struct {
		m    api.Module
		want api.Errno
	}{
		{api.Module{Pool: []api.Entry{{}}}, api.ErrKind},
		{api.Module{Pool: []api.Entry{{Kind: api.CClass}}}, api.ErrEntry},
		{api.Module{Pool: make([]api.Entry, 4097)}, api.ErrMany},
		{pack(many...), api.ErrMany},
		{pack(api.Class{Flags: 3, Name: "B", Super: "Object"}), api.ErrFlags},
		{pack(class("", "Object")), api.ErrName},
		{pack(class("B", "")), api.ErrName},
		{pack(bad), api.ErrSuper},
		{pack(face("I", field(0, "x", "I"))), api.ErrFace},
		{pack(class("B", "Object", "I", "I")), api.ErrTwice},
		{pack(class("B", "Object", api.Field{Name: "x", Type: api.Type{Dims: 9}})), api.ErrArg},
		{pack(class("B", "Object", owes("f", "()V"))), api.ErrFlags},
		{pack(class("B", "Object", api.Method{Name: "f", Locals: 1, Code: []byte{99}})), api.ErrOp},
		{pack(class("B", "Object", api.Method{Name: "f", Locals: 1})), api.ErrEnd},
		{pack(class("B", "Object"), class("B", "Object")), api.ErrTwice},
	} {
		refuses(t, w, x.m, x.want)
	}
	named(t, w, "A")
}

// P601: names that are there already: of W4, of another module; they need not be alike in anything else.
func TestAddTwice(t *testing.T) {
	w := hier.New()
	adds(t, w, class("A", "Object"), face("I"))
	for _, name := range append(strings.Fields(givenNames), "A", "I") {
		refuses(t, w, pack(class(name, "Object")), api.ErrTwice)
		refuses(t, w, pack(face(name)), api.ErrTwice)
		refuses(t, w, pack(class("B", "Object"), open(name, "B"), class("C", "B")), api.ErrTwice)
	}
	named(t, w, "A", "I")
	adds(t, w, class("B", "Object"), class("a", "Object"))
	named(t, w, "A", "I", "B", "a")
}

// full is a world with so many classes beside those of W4.
func full(t *testing.T, n int) *hier.World {
	t.Helper()
	w := hier.New()
	for i := 0; i < n; i += 64 {
		adds(t, w, row(i, min(64, n-i))...)
	}
	return w
}

// P601: MaxLoaded classes are taken, one more is not.
func TestAddMaxLoaded(t *testing.T) {
	w := full(t, 256)
	refuses(t, w, pack(class("A", "Object")), api.ErrMany)
	refuses(t, w, pack(row(300, 64)...), api.ErrMany)
	if e := w.Add(api.Module{}); e != api.OK || len(w.Names()) != 264 {
		t.Errorf("%v, %d", e, len(w.Names()))
	}
	if s, e := w.Link(); s != "" || e != api.OK || !w.Above("Object", "R255") {
		t.Errorf("%s, %v", s, e)
	}
	w = full(t, 255)
	refuses(t, w, pack(row(300, 2)...), api.ErrMany)
	adds(t, w, class("A", "Object"))
	refuses(t, w, pack(class("B", "Object")), api.ErrMany)
	w = full(t, 193)
	refuses(t, w, pack(row(300, 64)...), api.ErrMany)
	adds(t, w, row(300, 63)...)
}

// P601, P6: the order of Add's errors.
func TestAddErrorsInOrder(t *testing.T) {
	broken := api.Class{Flags: 9, Name: "R0", Super: "Object"}
	w := full(t, 256)
	refuses(t, w, pack(append(row(300, 2), broken)...), api.ErrFlags)
	refuses(t, w, pack(append(row(300, 2), class("R7", "Object"))...), api.ErrTwice)
	refuses(t, w, pack(row(300, 2)...), api.ErrMany)
	w.Link()
	for _, m := range []api.Module{{}, pack(broken), pack(class("R7", "Object")), pack(row(300, 2)...), pack(class("A", "Object"))} {
		refuses(t, w, m, api.ErrLinked)
	}
	w = hier.New()
	w.Link()
	refuses(t, w, pack(class("A", "Object")), api.ErrLinked)
	named(t, w)
}
