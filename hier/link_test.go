package hier_test

import (
	"math/rand"
	"slices"
	"strconv"
	"testing"

	"keystone/api"
	"keystone/hier"
	"keystone/pool"
)

// linking holds Link against what is wanted, of the classes in one module and in one module each; asked again it tells the same: P602.
func linking(t *testing.T, what, name string, want api.Errno, l ...api.Class) {
	t.Helper()
	one, many := hier.New(), hier.New()
	adds(t, one, l...)
	for _, c := range l {
		adds(t, many, c)
	}
	for _, w := range []*hier.World{one, many} {
		if s, e := w.Link(); s != name || e != want || w.Linked() != (want == api.OK) {
			t.Errorf("%s: %s, %v, %v, wanted %s, %v", what, s, e, w.Linked(), name, want)
		}
		again := want
		if want == api.OK {
			again = api.ErrLinked
		}
		if s, e := w.Link(); s != name || e != again || w.Linked() != (want == api.OK) {
			t.Errorf("%s, again: %s, %v, wanted %s, %v", what, s, e, name, again)
		}
	}
}

// P602: no module at all.
func TestLinkNothing(t *testing.T) {
	linking(t, "nothing", "", api.OK)
	w := hier.New()
	if s, e := w.Link(); s != "" || e != api.OK || !w.Above("Throwable", "HeapError") || !w.Sub(typ("LHeapError;"), typ("LObject;")) {
		t.Errorf("%s, %v", s, e)
	}
}

// P602, rule 1.
func TestLinkSuper(t *testing.T) {
	linking(t, "super lacks", "A", api.ErrSuper, class("A", "X"))
	linking(t, "face lacks", "A", api.ErrSuper, class("A", "Object", "X"))
	linking(t, "last face lacks", "A", api.ErrSuper, face("I"), class("A", "Object", "I", "X"))
	linking(t, "face of a face lacks", "I", api.ErrSuper, class("A", "Object", "I"), face("I", "X"))
	linking(t, "first one", "B", api.ErrSuper, class("C", "Object"), class("B", "X"), class("A", "X"))
	linking(t, "below each that is given", "", api.OK, class("A", "Object"), class("B", "Throwable"), class("C", "NilError"), class("D", "HeapError"), class("E", "D"))
	linking(t, "below one that comes later", "", api.OK, class("A", "B", "I"), class("B", "Object"), face("I", "J"), face("J"))
}

// P602, rule 2.
func TestLinkFace(t *testing.T) {
	linking(t, "below an interface", "A", api.ErrFace, class("A", "I"), face("I"))
	linking(t, "open, below an interface", "A", api.ErrFace, face("I"), open("A", "I"))
	linking(t, "a class as face", "A", api.ErrFace, class("A", "Object", "B"), class("B", "Object"))
	linking(t, "an open class as face", "A", api.ErrFace, class("A", "Object", "I", "B"), open("B", "Object"), face("I"))
	linking(t, "Object as face", "A", api.ErrFace, class("A", "Object", "Object"))
	linking(t, "a class as an interface's face", "I", api.ErrFace, face("I", "J", "Throwable"), face("J"))
	linking(t, "itself as face", "A", api.ErrFace, class("A", "Object", "A"))
	linking(t, "first one", "B", api.ErrFace, class("C", "Object", "I"), class("B", "I"), class("A", "I"), face("I"))
}

// P602, rule 3: circles by Super, by Faces; what only leads to one is not in it.
func TestLinkCycle(t *testing.T) {
	linking(t, "itself", "A", api.ErrCycle, class("A", "A"))
	linking(t, "two", "A", api.ErrCycle, class("A", "B"), class("B", "A"))
	linking(t, "three", "C", api.ErrCycle, class("C", "A"), class("B", "C"), class("A", "B"))
	linking(t, "below a circle", "B", api.ErrCycle, class("A", "B"), class("C", "A"), class("B", "B"))
	linking(t, "below a circle of two", "C", api.ErrCycle, class("A", "B"), class("C", "B"), class("B", "C"))
	linking(t, "an interface itself", "I", api.ErrCycle, face("I", "I"))
	linking(t, "interfaces", "J", api.ErrCycle, class("A", "Object", "I"), face("J", "K"), face("I", "J"), face("K", "I"))
	linking(t, "the second face", "I", api.ErrCycle, face("K"), face("I", "K", "J"), face("J", "K", "I"))
	linking(t, "a class above whose faces is one", "I", api.ErrCycle, class("A", "B"), class("B", "Object", "I"), face("I", "I"))
	linking(t, "many ways, no circle", "", api.OK, class("A", "B", "I", "J", "K"), class("B", "Object", "J", "K"), face("I", "J", "K"), face("J", "K"), face("K"))
	var l []api.Class
	for i := range 60 {
		l = append(l, class("C"+strconv.Itoa(i), "C"+strconv.Itoa((i+1)%60)))
	}
	linking(t, "sixty", "C0", api.ErrCycle, l...)
	linking(t, "sixty, below them", "C0", api.ErrCycle, append([]api.Class{class("A", "C30")}, l...)...)
}

// chain is classes one below the other, named by numbers, the first one below super.
func chain(n int, super string) []api.Class {
	var l []api.Class
	for i := range n {
		l = append(l, class("L"+strconv.Itoa(i), super))
		super = l[i].Name
	}
	return l
}

// P602, rule 4: chains of MaxChain classes, Object with them, and of one more.
func TestLinkLong(t *testing.T) {
	linking(t, "32", "", api.OK, chain(31, "Object")...)
	linking(t, "33", "L31", api.ErrLong, chain(32, "Object")...)
	linking(t, "34", "L31", api.ErrLong, chain(33, "Object")...)
	linking(t, "32 below HeapError", "", api.OK, chain(29, "HeapError")...)
	linking(t, "33 below HeapError", "L29", api.ErrLong, chain(30, "HeapError")...)
	linking(t, "33 and one that fits", "B", api.ErrLong, append(chain(31, "Object"), class("A", "L29"), class("B", "L30"))...)
	l := chain(33, "Object")
	slices.Reverse(l)
	linking(t, "the lowest first", "L32", api.ErrLong, l...)
	var faces []api.Class
	for i := range 63 {
		faces = append(faces, face("F"+strconv.Itoa(i), "F"+strconv.Itoa(i+1)))
	}
	faces = append(faces, face("F63"))
	linking(t, "faces are no chain", "", api.OK, faces...)
	linking(t, "faces of a chain", "", api.OK, append(chain(30, "Object"), class("A", "L29", "I"), face("I", "J"), face("J", "K"), face("K"))...)
}

// poolOf is a pool that f made.
func poolOf(f func(b *pool.Builder)) []api.Entry {
	b := pool.New()
	f(b)
	return b.Pool()
}

// P602, rule 5: each place in which a class may be named.
func TestLinkNone(t *testing.T) {
	caught := func(c string) api.Method {
		m := does(0, "f", "()V")
		m.Handlers = []api.Handler{{To: 1, Class: "Throwable"}, {To: 2, Class: c}}
		return m
	}
	for _, x := range []struct {
		what string
		part any
	}{
		{"field", field(0, "x", "LX;")}, {"static field", field(4, "x", "LX;")}, {"array", field(0, "x", "[[[LX;")},
		{"param", does(0, "f", "(ILX;)V")}, {"first param", does(0, "f", "(LX;I)V")}, {"static", does(4, "f", "([LX;)V")}, {"result", does(0, "f", "()LX;")}, {"array's result", does(0, "f", "(I)[LX;")},
		{"abstract", owes("f", "(LX;)V")}, {"constructor", does(0, "<init>", "(LX;)V")}, {"handler", caught("X")},
	} {
		linking(t, x.what, "A", api.ErrNone, class("B", "Object", field(0, "x", "LA;")), open("A", "Object", field(0, "y", "I"), does(0, "h", "()I"), x.part))
		linking(t, x.what, "", api.OK, class("B", "Object", field(0, "x", "LA;")), open("A", "Object", field(0, "y", "I"), does(0, "h", "()I"), x.part), face("X"))
	}
	linking(t, "interface's", "I", api.ErrNone, face("I", owes("f", "()LX;")))
	linking(t, "numbers", "", api.OK, class("A", "Object", field(0, "x", "I"), field(0, "y", "[[I"), does(0, "f", "(I[I)[I")))
	linking(t, "given", "", api.OK, class("A", "Object", field(0, "x", "LObject;"), field(0, "y", "[LDivError;"), caught("HeapError")))
	linking(t, "first one", "B", api.ErrNone, class("C", "Object"), class("B", "Object", field(0, "x", "LX;")), class("A", "Object", field(0, "x", "LX;")))
}

// P602, rule 5: the pool of a class's module, kind by kind; of a module without classes nothing is asked.
func TestLinkNoneInPool(t *testing.T) {
	for _, x := range []struct {
		what string
		want api.Errno
		make func(b *pool.Builder)
	}{
		{"class", api.ErrNone, func(b *pool.Builder) { b.Class("X") }},
		{"type", api.ErrNone, func(b *pool.Builder) { b.Type(typ("LX;")) }},
		{"array", api.ErrNone, func(b *pool.Builder) { b.Type(typ("[[LX;")) }},
		{"field's class", api.ErrNone, func(b *pool.Builder) { b.Field("X", "x", typ("I")) }},
		{"field's type", api.ErrNone, func(b *pool.Builder) { b.Field("A", "x", typ("[LX;")) }},
		{"method's class", api.ErrNone, func(b *pool.Builder) { b.Method("X", "f", sig("()V")) }},
		{"method's param", api.ErrNone, func(b *pool.Builder) { b.Method("A", "f", sig("(I[LX;)V")) }},
		{"method's result", api.ErrNone, func(b *pool.Builder) { b.Method("A", "f", sig("(I)LX;")) }},
		{"behind others", api.ErrNone, func(b *pool.Builder) { b.Class("A"); b.Number(1); b.Type(typ("[I")); b.Type(typ("LX;")) }},
		{"texts", api.OK, func(b *pool.Builder) { b.Text("X"); b.Text("LX;"); b.Text("()LX;"); b.Text("Y Z") }},
		{"members that are not there", api.OK, func(b *pool.Builder) { b.Field("A", "X", typ("I")); b.Method("I", "X", sig("()V")) }},
		{"those that are there", api.OK, func(b *pool.Builder) {
			b.Class("I")
			b.Field("Object", "x", typ("[[LB;"))
			b.Method("A", "<init>", sig("(LHeapError;I)V"))
		}},
	} {
		w := hier.New()
		adds(t, w, class("B", "Object"), face("I"))
		l := poolOf(x.make)
		if e := w.Add(api.Module{Pool: l}); e != api.OK {
			t.Fatal(x.what, e)
		}
		if e := w.Add(api.Module{Pool: l, Classes: []api.Class{class("C", "B"), class("A", "Object")}}); e != api.OK {
			t.Fatal(x.what, e)
		}
		adds(t, w, class("D", "Object"))
		name := "C"
		if x.want == api.OK {
			name = ""
		}
		if s, e := w.Link(); s != name || e != x.want {
			t.Errorf("%s: %s, %v, wanted %s, %v", x.what, s, e, name, x.want)
		}
	}
	w := hier.New()
	w.Add(api.Module{Pool: poolOf(func(b *pool.Builder) { b.Class("X") })})
	if s, e := w.Link(); s != "" || e != api.OK {
		t.Errorf("no classes: %s, %v", s, e)
	}
}

// P602, rule 6: each pair of kinds; the nearest one counts alone.
func TestLinkOverride(t *testing.T) {
	f, s, o := does(0, "f", "(I)I"), does(4, "f", "(I)I"), owes("f", "(I)I")
	for _, x := range []struct {
		what     string
		up, down api.Method
		want     api.Errno
	}{
		{"code by code", f, f, api.OK}, {"abstract by code", o, f, api.OK}, {"code by abstract", f, o, api.OK}, {"abstract by abstract", o, o, api.OK},
		{"code by static", f, s, api.ErrOverride}, {"static by code", s, f, api.ErrOverride}, {"static by static", s, s, api.ErrOverride}, {"abstract by static", o, s, api.ErrOverride}, {"static by abstract", s, o, api.ErrOverride},
		{"another result", s, does(0, "f", "(I)V"), api.OK}, {"other params", s, does(0, "f", "()I"), api.OK}, {"another name", s, does(0, "F", "(I)I"), api.OK},
		{"constructors", does(0, "<init>", "()V"), does(0, "<init>", "()V"), api.OK},
	} {
		name := "B"
		if x.want == api.OK {
			name = ""
		}
		linking(t, x.what, name, x.want, open("A", "Object", x.up), open("B", "A", x.down))
		linking(t, x.what, name, x.want, open("B", "C", does(0, "g", "()V"), x.down), open("C", "A", does(0, "h", "(I)I")), open("A", "Object", x.up))
	}
	linking(t, "nearest is static", "C", api.ErrOverride, class("C", "B", f), class("B", "A", s), class("A", "Object", f))
	linking(t, "nearest is not", "B", api.ErrOverride, class("C", "B", f), class("B", "A", f), class("A", "Object", s))
	linking(t, "beside one another", "", api.OK, class("C", "A", f), class("B", "A", s), class("A", "Object"))
	linking(t, "a face's is none", "", api.OK, open("A", "Object", "I", s), face("I", o))
	linking(t, "interfaces", "", api.OK, face("I", "J", o), face("J", o))
	linking(t, "constructor of W4", "", api.OK, class("A", "HeapError", does(0, "<init>", "()V")))
}

// P602, rule 7.
func TestLinkMissing(t *testing.T) {
	f, s, o := does(0, "f", "()I"), does(4, "f", "()I"), owes("f", "()I")
	i := face("I", o)
	linking(t, "face's", "A", api.ErrMissing, class("A", "Object", "I"), i)
	linking(t, "face's, done", "", api.OK, class("A", "Object", "I", f), i)
	linking(t, "done above", "", api.OK, class("A", "B", "I"), class("B", "Object", f), i)
	linking(t, "done by a static one", "A", api.ErrMissing, class("A", "Object", "I", s), i)
	linking(t, "done by a static one above", "A", api.ErrMissing, class("A", "B", "I"), class("B", "Object", s), i)
	linking(t, "another result", "A", api.ErrMissing, class("A", "Object", "I", does(0, "f", "()V")), i)
	linking(t, "another name", "A", api.ErrMissing, class("A", "Object", "I", does(0, "g", "()I")), i)
	linking(t, "one of two", "A", api.ErrMissing, class("A", "Object", "I", f), face("I", o, owes("g", "()I")))
	linking(t, "face's face's", "A", api.ErrMissing, class("A", "Object", "J"), face("J", "K"), face("K", "I"), i)
	linking(t, "face's of the class above", "A", api.ErrMissing, class("A", "B"), open("B", "Object", "J"), face("J", "I"), i)
	linking(t, "second face's", "A", api.ErrMissing, class("A", "Object", "J", "I"), face("J"), i)
	linking(t, "open", "", api.OK, open("A", "Object", "I"), i)
	linking(t, "interface", "", api.OK, face("J", "I"), i)
	linking(t, "open, with its own", "", api.OK, open("A", "Object", o))
	linking(t, "below open", "A", api.ErrMissing, class("A", "B"), open("B", "Object", o))
	linking(t, "below open, done", "", api.OK, class("A", "B", f), open("B", "Object", o))
	linking(t, "done between", "", api.OK, class("A", "C"), class("C", "B", f), open("B", "Object", o))
	linking(t, "abstract again", "A", api.ErrMissing, class("A", "D"), open("D", "C", o), class("C", "B", f), open("B", "Object", o))
	linking(t, "abstract in its place", "A", api.ErrMissing, class("A", "D"), open("D", "C", o), class("C", "Object", f))
	linking(t, "a face's, open between", "A", api.ErrMissing, class("A", "D", "I"), open("D", "C", o), class("C", "Object", f), i)
	linking(t, "first one", "B", api.ErrMissing, class("C", "Object", "I", f), class("B", "Object", "I"), class("A", "Object", "I"), i)
}

// faults are classes that break one rule, in the order of the rules, and the one that is named.
func faults() [][]api.Class {
	return [][]api.Class{
		{class("Stray", "None")},
		{class("Mixed", "Object", "Object")},
		{class("Circle", "Circle")},
		chain(32, "Object"),
		{class("Dangling", "Object", field(0, "x", "LNone;"))},
		{class("Up", "Object", does(4, "f", "()V")), class("Down", "Up", does(0, "f", "()V"))},
		{open("Owed", "Object", owes("f", "()V")), class("Owing", "Owed")},
	}
}

// P602, P6: whatever rules are broken together, in whatever order the classes came, the first rule is told.
func TestLinkRuleByRule(t *testing.T) {
	r := rand.New(rand.NewSource(602))
	names := []string{"Stray", "Mixed", "Circle", "L31", "Dangling", "Down", "Owing"}
	errs := []api.Errno{api.ErrSuper, api.ErrFace, api.ErrCycle, api.ErrLong, api.ErrNone, api.ErrOverride, api.ErrMissing}
	for set := range 128 {
		var l []api.Class
		name, want := "", api.OK
		for i, f := range faults() {
			if set>>i&1 == 1 {
				l = append(l, f...)
				if want == api.OK {
					name, want = names[i], errs[i]
				}
			}
		}
		linking(t, strconv.Itoa(set), name, want, l...)
		slices.Reverse(l)
		linking(t, strconv.Itoa(set), name, want, l...)
		r.Shuffle(len(l), func(i, j int) { l[i], l[j] = l[j], l[i] })
		linking(t, strconv.Itoa(set), name, want, l...)
	}
}

// P602: behind an error more may be added, till it is linked. (The second example of the chapter.)
func TestLinkAgain(t *testing.T) {
	w := hier.New()
	link := func(name string, want api.Errno) {
		t.Helper()
		if s, e := w.Link(); s != name || e != want || w.Linked() != (want == api.OK) {
			t.Errorf("%s, %v, wanted %s, %v", s, e, name, want)
		}
	}
	adds(t, w, class("A", "X", "I", field(0, "x", "LY;")))
	link("A", api.ErrSuper)
	adds(t, w, open("X", "Object", owes("g", "()V")))
	link("A", api.ErrSuper)
	adds(t, w, face("I", owes("f", "()V")))
	link("A", api.ErrNone)
	adds(t, w, class("Y", "Object"))
	link("A", api.ErrMissing)
	named(t, w, "A", "X", "I", "Y")
	if len(w.Chain("A")) != 0 || w.Above("A", "A") {
		t.Error("refused, but asked")
	}

	w = hier.New()
	adds(t, w, class("A", "X"))
	link("A", api.ErrSuper)
	adds(t, w, class("X", "Object"))
	link("", api.OK)
	if !slices.Equal(w.Chain("A"), []string{"A", "X", "Object"}) {
		t.Errorf("%v", w.Chain("A"))
	}
}
