package hier_test

import (
	"fmt"
	"math"
	"math/rand"
	"reflect"
	"slices"
	"strconv"
	"strings"
	"testing"

	"keystone/api"
	"keystone/hier"
	"keystone/module"
)

// The first example of the chapter.
func TestExample(t *testing.T) {
	w := world(t, class("B", "A"), class("A", "Object"), class("C", "A"), face("I", "J"), face("J"))
	if s := w.Common("B", "C"); s != "A" {
		t.Error(s)
	}
	if !w.Sub(typ("LI;"), typ("LJ;")) || w.Above("J", "I") || w.Common("I", "J") != "Object" {
		t.Error("I, J")
	}
}

// P609: Above is an order; Common is above both, and below whatever is.
func TestAboveIsAnOrder(t *testing.T) {
	linkedWorlds(t, 609, 150, func(w *hier.World, _ []api.Module) {
		names := w.Names()
		for _, a := range names {
			if !w.Above(a, a) {
				t.Fatalf("%s is not above itself", a)
			}
			for _, b := range names {
				if a != b && w.Above(a, b) && w.Above(b, a) {
					t.Fatalf("%s, %s above each other", a, b)
				}
				up := w.Common(a, b)
				if !w.Above(up, a) || !w.Above(up, b) || up != w.Common(b, a) {
					t.Fatalf("Common(%s, %s): %s", a, b, up)
				}
				for _, c := range names {
					if w.Above(a, b) && w.Above(b, c) && !w.Above(a, c) {
						t.Fatalf("%s, %s, %s", a, b, c)
					}
					if w.Above(c, a) && w.Above(c, b) && !w.Above(c, up) {
						t.Fatalf("Common(%s, %s): %s, but %s", a, b, up, c)
					}
				}
			}
		}
	})
}

// P609: so is Sub of right types whose classes are there.
func TestSubIsAnOrder(t *testing.T) {
	linkedWorlds(t, 6090, 150, func(w *hier.World, l []api.Module) {
		types := []api.Type{{}, {Dims: 1}, {Dims: 8}}
		for _, s := range w.Names() {
			types = append(types, api.Type{Name: s}, api.Type{Dims: 1, Name: s})
		}
		below := make([][]bool, len(types))
		for i, a := range types {
			for _, b := range types {
				below[i] = append(below[i], w.Sub(a, b))
			}
		}
		for i := range types {
			for j := range types {
				if below[i][j] && below[j][i] != (i == j) || !below[i][i] {
					t.Fatalf("%v, %v", types[i], types[j])
				}
				for k := range types {
					if below[i][j] && below[j][k] && !below[i][k] {
						t.Fatalf("%v, %v, %v", types[i], types[j], types[k])
					}
				}
			}
		}
	})
}

// P609: a class's Layout begins with its Super's.
func TestLayoutBeginsWithSupers(t *testing.T) {
	fields := 0
	linkedWorlds(t, 60900, 150, func(w *hier.World, _ []api.Module) {
		for _, s := range w.Names() {
			c, _, _ := w.Class(s)
			l, up := w.Layout(s), w.Layout(c.Super)
			if len(l) < len(up) || !slices.Equal(l[:len(up)], up) {
				t.Fatalf("%s: %v, %v", s, l, up)
			}
			fields += len(up)
		}
	})
	if fields < 200 {
		t.Errorf("only %d fields", fields)
	}
}

// P609: the order in which modules are added is seen in Names and in the class that Link names alone.
func TestOrderOfModules(t *testing.T) {
	r := rand.New(rand.NewSource(6))
	errs := map[api.Errno]int{}
	for range 800 {
		l := someModules(r)
		w, other := hier.New(), hier.New()
		for _, m := range l {
			w.Add(m)
		}
		for _, i := range r.Perm(len(l)) {
			if e := other.Add(l[i]); e != api.OK {
				t.Fatal(e)
			}
		}
		_, e := w.Link()
		_, no := other.Link()
		if e != no {
			t.Fatalf("%v, %v", e, no)
		}
		a, b := w.Names(), other.Names()
		slices.Sort(a)
		slices.Sort(b)
		if !slices.Equal(a, b) {
			t.Fatalf("%v, %v", a, b)
		}
		if errs[e]++; errs[e] > 15 {
			continue
		}
		if d := differs(told(w), told(other)); d != "" {
			t.Fatal(d)
		}
	}
	if len(errs) < 6 {
		t.Errorf("%v", errs)
	}
}

// P610: of a class of which there are objects: where Method tells one by ICall or IFace, Pick tells one that has code.
func TestWhatIsToldIsDone(t *testing.T) {
	calls, faces := 0, 0
	linkedWorlds(t, 610, 600, func(w *hier.World, _ []api.Module) {
		for _, class := range w.Names() {
			if c, _, _ := w.Class(class); c.Flags != 0 {
				continue
			}
			for _, up := range w.Chain(class) {
				calls += isDone(t, w, api.ICall, up, class)
			}
			for _, up := range w.Faces(class) {
				faces += isDone(t, w, api.IFace, up, class)
			}
		}
	})
	if calls < 1000 || faces < 300 {
		t.Errorf("only %d calls, %d of faces", calls, faces)
	}
}

// isDone is how many methods Method tells of a class; each of them an object of another one must do.
func isDone(t *testing.T, w *hier.World, op int, up, class string) int {
	t.Helper()
	n := 0
	for _, name := range []string{"f", "g", "<init>"} {
		for _, s := range append([]string{"(I)V"}, someSigs...) {
			if _, _, e := w.Method(op, up, name, sig(s)); e != api.OK {
				continue
			}
			n++
			has, i, ok := w.Pick(class, name, sig(s))
			c, _, _ := w.Class(has)
			if !ok || len(c.Methods[i].Code) == 0 || c.Methods[i].Name != name || text(c.Methods[i].Sig) != s || !w.Above(has, class) {
				t.Fatalf("%s, of %s: %s, %s: %s, %d, %v", class, up, name, s, has, i, ok)
			}
		}
	}
	return n
}

// oddText is a text that is seldom a name that is there.
func oddText(r *rand.Rand) string {
	return of(r, "", "A", "B", "I", "J", "Object", "HeapError", "None", "f", "x", "<init>", "1", "LA;", "\xff", "A\x00", strings.Repeat("x", 32), strings.Repeat("x", 1000))
}

func oddType(r *rand.Rand) api.Type {
	return api.Type{Dims: []int{0, 0, 1, 8, 9, -1, math.MinInt, math.MaxInt}[r.Intn(8)], Name: oddText(r)}
}

func oddSig(r *rand.Rand) api.Sig {
	g := api.Sig{Void: seldom(r, 2)}
	for range r.Intn(20) {
		g.Params = append(g.Params, oddType(r))
	}
	if seldom(r, 2) {
		g.Result = oddType(r)
	}
	return g
}

// P1, P3, P8: no call panics, whatever it is handed, linked or not, and handed the same it answers the same.
func TestNoPanic(t *testing.T) {
	r := rand.New(rand.NewSource(1))
	for i := range 200 {
		w := hier.New()
		for _, m := range someModules(r) {
			w.Add(m)
		}
		if i%2 == 0 {
			w.Link()
		}
		for range 200 {
			a, b, c := oddText(r), oddText(r), oddText(r)
			x, y, g, op := oddType(r), oddType(r), oddSig(r), r.Intn(100)-20
			ask := func() string {
				s, i, e := w.Field(a, b, x, op%2 == 0)
				has, j, no := w.Method(op, a, b, g)
				up, k, ok := w.Pick(a, b, g)
				one, l, there := w.Class(c)
				return fmt.Sprint(s, i, e, has, j, no, up, k, ok, image(one, false), image(l, false), there, w.Above(a, b), w.Sub(x, y), w.Common(a, b, c), w.Chain(a), w.Faces(b), w.Layout(c))
			}
			if ask() != ask() {
				t.Fatal(a, b, c, x, y, g, op)
			}
		}
	}
}

// wound changes one thing of a module, wherever it stands.
func wound(r *rand.Rand, m *api.Module) {
	var l []reflect.Value
	var walk func(v reflect.Value)
	walk = func(v reflect.Value) {
		switch v.Kind() {
		case reflect.Slice:
			for i := range v.Len() {
				walk(v.Index(i))
			}
		case reflect.Struct:
			for i := range v.NumField() {
				walk(v.Field(i))
			}
		default:
			l = append(l, v)
		}
	}
	walk(reflect.ValueOf(m).Elem())
	v := l[r.Intn(len(l))]
	switch v.Kind() {
	case reflect.Int, reflect.Int64:
		v.SetInt([]int64{math.MinInt64, -1, 0, 1, 2, 4, 8, 64, 65, math.MaxInt64}[r.Intn(10)])
	case reflect.Uint8:
		v.SetUint(uint64(r.Intn(256)))
	case reflect.String:
		v.SetString(oddText(r))
	case reflect.Bool:
		v.SetBool(!v.Bool())
	}
}

// P1, P5, P601, P602: modules to which something was done, held against the book; what is refused changes nothing.
func TestWoundedModules(t *testing.T) {
	r := rand.New(rand.NewSource(5))
	met := map[api.Errno]int{}
	refused, linked := 0, 0
	for i := range 2000 {
		w, b := hier.New(), newBook()
		for _, m := range someModules(r) {
			m = module.Twin(m)
			for range r.Intn(3) {
				wound(r, &m)
			}
			names := w.Names()
			e, want := w.Add(m), b.Add(m)
			if e != want || e != api.OK && !slices.Equal(names, w.Names()) {
				t.Fatalf("Add: %v, wanted %v: %s", e, want, image(m, false))
			}
			met[e]++
		}
		s, e := w.Link()
		name, want := b.Link()
		if s != name || e != want {
			t.Fatalf("Link: %s, %v, wanted %s, %v", s, e, name, want)
		}
		if e != api.OK {
			refused++
		} else {
			linked++
		}
		if i%40 == 0 {
			alike(t, w, b)
		}
	}
	if len(met) < 8 || refused < 200 || linked < 20 {
		t.Errorf("%v, %d refused, %d linked", met, refused, linked)
	}
}

// P5: calls that answer an error change nothing that a later one could tell.
func TestErrorsChangeNothing(t *testing.T) {
	linkedWorlds(t, 55, 20, func(linked *hier.World, l []api.Module) {
		loose := hier.New()
		for _, m := range l {
			loose.Add(m)
		}
		adds(t, loose, class("Stray", "None"))
		for _, w := range []*hier.World{linked, loose} {
			was, names := told(w), w.Names()
			for _, m := range append(l, api.Module{Pool: make([]api.Entry, 1)}, pack(class("New", "Object"), class("A", "Object"))) {
				if len(m.Classes)+len(m.Pool) == 0 {
					continue
				}
				if e := w.Add(m); e == api.OK {
					t.Fatal("added")
				}
			}
			if _, e := w.Link(); e == api.OK {
				t.Fatal("linked")
			}
			if d := differs(told(w), was); d != "" || !slices.Equal(w.Names(), names) {
				t.Fatal(d)
			}
		}
	})
}

// P2: what is handed in is not changed, its spare room neither, and nothing of it is kept.
func TestNothingIsChangedOrKept(t *testing.T) {
	r := rand.New(rand.NewSource(2))
	for i := range 90 {
		w, b := hier.New(), newBook()
		for _, m := range someModules(r) {
			if i%3 == 0 && seldom(r, 4) {
				wound(r, &m)
			}
			b.Add(module.Twin(m))
			m = roomy(m)
			was := image(m, true)
			w.Add(m)
			if image(m, true) != was {
				t.Fatalf("%s, was %s", image(m, true), was)
			}
			spoil(m)
		}
		w.Link()
		b.Link()
		alike(t, w, b)
	}
}

// P2: the same of names and signatures.
func TestArgumentsAreNotChanged(t *testing.T) {
	w := methods(t)
	names := roomy([]string{"C", "B", "A"})
	g := roomy(sig("(LA;)V"))
	was := image(names, true) + image(g, true)
	w.Common(names...)
	w.Common(names[:2]...)
	for _, op := range []int{api.ICall, api.IFace, api.IStatic, api.IInit} {
		w.Method(op, "B", "<init>", g)
		w.Method(op, "I", "i", g)
	}
	w.Pick("B", "f", g)
	if image(names, true)+image(g, true) != was {
		t.Errorf("%s%s, was %s", image(names, true), image(g, true), was)
	}
}

// P2: answers are new memory, and no two lists of one share any: what is written to them is seen in no later one.
func TestAnswersAreNew(t *testing.T) {
	linkedWorlds(t, 3, 60, func(w *hier.World, l []api.Module) {
		was, names := told(w), w.Names()
		var all []any
		for range 2 {
			all = append(all, w.Names())
			for _, s := range names {
				c, p, _ := w.Class(s)
				all = append(all, c, p, w.Chain(s), w.Faces(s), w.Layout(s))
			}
		}
		for _, m := range l {
			all = append(all, m)
		}
		if shared(all...) {
			t.Fatal("shared")
		}
		for _, x := range all {
			spoil(x)
		}
		if d := differs(told(w), was); d != "" || !slices.Equal(w.Names(), names) {
			t.Fatal(d)
		}
	})
}

// P2: no list and an empty one are the same, handed in.
func TestNoListIsAnEmptyOne(t *testing.T) {
	w := hier.New()
	m := api.Module{Pool: []api.Entry{}, Classes: []api.Class{{Name: "A", Super: "Object", Faces: []string{}, Fields: []api.Field{}, Methods: []api.Method{
		{Name: "f", Sig: api.Sig{Params: []api.Type{}, Void: true}, Locals: 1, Code: []byte{api.IReturn}, Handlers: []api.Handler{}},
	}}, {Name: "B", Super: "A", Methods: []api.Method{}}}}
	if e := w.Add(m); e != api.OK {
		t.Fatal(e)
	}
	if e := w.Add(api.Module{Classes: []api.Class{}}); e != api.OK {
		t.Fatal(e)
	}
	if s, e := w.Link(); s != "" || e != api.OK {
		t.Fatal(s, e)
	}
	if s, n, ok := w.Pick("B", "f", api.Sig{Void: true}); s != "A" || n != 0 || !ok {
		t.Errorf("%s, %d", s, n)
	}
	if w.Common([]string{}...) != w.Common() {
		t.Error("Common")
	}
}

// P1: the most that a world may be asked for: each class owes by many faces what the chain above it does.
func TestGreatestWorld(t *testing.T) {
	w := hier.New()
	heads := make([]string, 64)
	for i := range heads {
		heads[i] = "m" + strconv.Itoa(i)
	}
	var l []api.Class
	for i := range 128 {
		c := face("F" + strconv.Itoa(i))
		for j := range min(16, 127-i) {
			c.Faces = append(c.Faces, "F"+strconv.Itoa(i+j+1))
		}
		for _, name := range heads {
			c.Methods = append(c.Methods, owes(name, "(IIIIIIIIIIIIIIII)V"))
		}
		l = append(l, c)
	}
	for i, c := range chain(31, "Object") {
		for _, name := range heads {
			if i > 0 {
				name += "_" + strconv.Itoa(i)
			}
			c.Methods = append(c.Methods, does(0, name, "(IIIIIIIIIIIIIIII)V"))
		}
		l = append(l, c)
	}
	for i := range 97 {
		l = append(l, class("C"+strconv.Itoa(i), "L29", "F0"))
	}
	for ; len(l) > 0; l = l[64:] {
		adds(t, w, l[:64]...)
	}
	if s, e := w.Link(); s != "" || e != api.OK {
		t.Fatal(s, e)
	}
	if s, n, ok := w.Pick("C96", "m63", sig("(IIIIIIIIIIIIIIII)V")); s != "L0" || n != 63 || !ok || len(w.Faces("C0")) != 128 {
		t.Errorf("%s, %d", s, n)
	}
}
