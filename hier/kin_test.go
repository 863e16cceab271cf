package hier_test

import (
	"slices"
	"strconv"
	"strings"
	"testing"

	"keystone/api"
	"keystone/hier"
)

// family is a world with something of everything: D below C below A below Object, B below A, E below DivError; I above which is J, J above which is K.
func family(t *testing.T) *hier.World {
	t.Helper()
	return world(t, class("D", "C", "L"), class("C", "A"), class("B", "A"), class("A", "Object", "J"), class("E", "DivError"), face("I", "J"), face("J", "K"), face("K"), face("L"))
}

// P604: Above, by Super alone.
func TestAbove(t *testing.T) {
	w := family(t)
	above := map[string]string{"A": "A B C D", "B": "B", "C": "C D", "D": "D", "E": "E", "I": "I", "J": "J", "K": "K", "L": "L", "Object": "*", "Throwable": "Throwable NilError BoundsError CastError DivError DepthError HeapError E", "DivError": "DivError E", "HeapError": "HeapError"}
	for up, l := range above {
		for _, down := range w.Names() {
			if x := w.Above(up, down); x != (l == "*" || slices.Contains(strings.Fields(l), down)) {
				t.Errorf("Above(%s, %s): %v", up, down, x)
			}
		}
	}
	for _, x := range [][2]string{{"X", "X"}, {"X", "A"}, {"A", "X"}, {"Object", "X"}, {"", ""}, {"", "Object"}, {"Object", ""}} {
		if w.Above(x[0], x[1]) {
			t.Errorf("Above(%s, %s)", x[0], x[1])
		}
	}
}

// P604, W6: Sub, type by type.
func TestSub(t *testing.T) {
	w := family(t)
	for _, x := range []struct {
		a, b string
		want bool
	}{
		{"I", "I", true}, {"I", "LObject;", false}, {"LObject;", "I", false}, {"I", "LA;", false}, {"LA;", "I", false}, {"I", "[I", false}, {"[I", "I", false},
		{"LA;", "LA;", true}, {"LD;", "LA;", true}, {"LD;", "LC;", true}, {"LD;", "LB;", false}, {"LA;", "LD;", false}, {"LA;", "LObject;", true}, {"LObject;", "LA;", false}, {"LObject;", "LObject;", true},
		{"LA;", "LJ;", true}, {"LA;", "LK;", true}, {"LA;", "LI;", false}, {"LA;", "LL;", false}, {"LD;", "LL;", true}, {"LD;", "LK;", true}, {"LC;", "LL;", false}, {"LJ;", "LA;", false}, {"LObject;", "LK;", false},
		{"LI;", "LJ;", true}, {"LI;", "LK;", true}, {"LJ;", "LI;", false}, {"LI;", "LI;", true}, {"LI;", "LObject;", true}, {"LI;", "LL;", false},
		{"LE;", "LDivError;", true}, {"LE;", "LThrowable;", true}, {"LE;", "LNilError;", false}, {"LThrowable;", "LObject;", true}, {"LHeapError;", "LThrowable;", true},
		{"[I", "[I", true}, {"[I", "LObject;", true}, {"[I", "[LObject;", false}, {"[I", "[[I", false}, {"[[I", "[LObject;", false}, {"[[I", "LObject;", true}, {"[[I", "[I", false},
		{"[LA;", "[LA;", true}, {"[LD;", "[LA;", false}, {"[LA;", "[LD;", false}, {"[LA;", "LA;", false}, {"LA;", "[LA;", false}, {"[LA;", "LObject;", true}, {"[LA;", "[LObject;", false}, {"[LA;", "LJ;", false}, {"[LA;", "[LJ;", false}, {"[LI;", "[LJ;", false}, {"LObject;", "[LObject;", false}, {"[LObject;", "LObject;", true}, {"[LObject;", "[LObject;", true}, {"[[LObject;", "[LObject;", false},
		{"[[[[[[[[LK;", "[[[[[[[[LK;", true}, {"[[[[[[[[LK;", "LObject;", true},
		{"LX;", "LX;", false}, {"LX;", "LObject;", false}, {"LA;", "LX;", false}, {"[LX;", "LObject;", false}, {"[LX;", "[LX;", false}, {"LObject;", "LX;", false}, {"I", "LX;", false},
	} {
		if y := w.Sub(typ(x.a), typ(x.b)); y != x.want {
			t.Errorf("Sub(%s, %s): %v", x.a, x.b, y)
		}
	}
	object := api.Type{Name: "Object"}
	for _, bad := range []api.Type{{Dims: 9}, {Dims: -1}, {Dims: 9, Name: "A"}, {Dims: -1, Name: "A"}, {Dims: -1, Name: "Object"}, {Name: "1"}, {Name: "<init>"}, {Name: "A;"}, {Dims: 1, Name: strings.Repeat("x", 33)}} {
		if w.Sub(bad, bad) || w.Sub(bad, object) || w.Sub(object, bad) || w.Sub(api.Type{Name: "A"}, bad) {
			t.Errorf("Sub of %v", bad)
		}
	}
}

// P604: Common, of any number. (The first example of the chapter is among them.)
func TestCommon(t *testing.T) {
	w := family(t)
	for _, x := range []struct{ l, want string }{
		{"", ""}, {"D", "D"}, {"Object", "Object"}, {"I", "I"}, {"B C", "A"}, {"C B", "A"}, {"D C", "C"}, {"C D", "C"}, {"D B", "A"}, {"D D D", "D"}, {"D C B", "A"}, {"D C A B", "A"}, {"D B E", "Object"}, {"D Object", "Object"},
		{"I J", "Object"}, {"I I", "I"}, {"A J", "Object"}, {"J A", "Object"}, {"E NilError", "Throwable"}, {"E DivError", "DivError"}, {"HeapError NilError DivError", "Throwable"}, {"E A", "Object"},
		{"X", ""}, {"X D", ""}, {"D X", ""}, {"D B X", ""}, {"D X B", ""}, {"X X", ""},
	} {
		if s := w.Common(strings.Fields(x.l)...); s != x.want {
			t.Errorf("Common(%s): %s, wanted %s", x.l, s, x.want)
		}
	}
	if w.Common([]string{}...) != "" || w.Common("") != "" || w.Common("D", "") != "" {
		t.Error("Common of nothing")
	}
	if s := w.Common(slices.Repeat([]string{"D", "C"}, 5000)...); s != "C" {
		t.Errorf("Common of many: %s", s)
	}
}

// P604: Chain and Faces, each in its order.
func TestChainAndFaces(t *testing.T) {
	w := family(t)
	for _, x := range []struct{ name, chain, faces string }{
		{"D", "D C A Object", "L J K"}, {"C", "C A Object", "J K"}, {"A", "A Object", "J K"}, {"E", "E DivError Throwable Object", ""}, {"I", "I Object", "J K"}, {"K", "K Object", ""},
		{"Object", "Object", ""}, {"Throwable", "Throwable Object", ""}, {"HeapError", "HeapError Throwable Object", ""}, {"X", "", ""}, {"", "", ""},
	} {
		if l := w.Chain(x.name); !slices.Equal(l, strings.Fields(x.chain)) {
			t.Errorf("Chain(%s): %v", x.name, l)
		}
		if l := w.Faces(x.name); !slices.Equal(l, strings.Fields(x.faces)) {
			t.Errorf("Faces(%s): %v", x.name, l)
		}
	}
}

// P604: the walk through faces: downward at once, each where it comes first; those of the class ahead of those above it.
func TestFacesInOrder(t *testing.T) {
	w := world(t,
		class("A", "B", "I", "J"), class("B", "C", "K", "I", "P"), class("C", "Object", "Q", "O"),
		face("I", "M", "N"), face("J", "N", "O"), face("K", "J", "Q"), face("M", "O"), face("N"), face("O"), face("P", "I"), face("Q"))
	for _, x := range []struct{ name, want string }{
		{"A", "I M O N J K Q P"}, {"B", "K J N O Q I M P"}, {"C", "Q O"}, {"P", "I M O N"}, {"K", "J N O Q"}, {"M", "O"}, {"N", ""},
	} {
		if l := w.Faces(x.name); !slices.Equal(l, strings.Fields(x.want)) {
			t.Errorf("Faces(%s): %v, wanted %s", x.name, l, x.want)
		}
	}
}

// P1, P604: faces that lead to one another by very many ways; as deep as there are classes.
func TestFacesByManyWays(t *testing.T) {
	w := hier.New()
	var l []api.Class
	var want []string
	for i := range 256 {
		c := face("F" + strconv.Itoa(i))
		for j := i + 1; j < min(256, i+17); j++ {
			c.Faces = append(c.Faces, "F"+strconv.Itoa(j))
		}
		l = append(l, c)
		want = append(want, c.Name)
	}
	for ; len(l) > 0; l = l[64:] {
		adds(t, w, l[:64]...)
	}
	if s, e := w.Link(); s != "" || e != api.OK {
		t.Fatal(s, e)
	}
	if x := w.Faces("F0"); !slices.Equal(x, want[1:]) {
		t.Errorf("%v", x)
	}
	if !w.Sub(typ("LF0;"), typ("LF255;")) || w.Sub(typ("LF255;"), typ("LF0;")) || w.Common("F0", "F255") != "Object" {
		t.Error("Sub, Common")
	}
}

// P604: a chain of MaxChain classes.
func TestLongestChain(t *testing.T) {
	w := world(t, chain(31, "Object")...)
	l := w.Chain("L30")
	if len(l) != 32 || l[0] != "L30" || l[31] != "Object" || !w.Above("L0", "L30") || w.Above("L30", "L0") || w.Common("L30", "L5", "L17") != "L5" {
		t.Errorf("%v", l)
	}
}

// P603: a world that is not linked, asked for everything: one without modules, one that would link, one that does not.
func TestLooseWorlds(t *testing.T) {
	stray := hier.New()
	adds(t, stray, class("A", "None"), class("B", "B", "I"), face("I", "J"), face("J", "I"))
	stray.Link()
	fine := hier.New()
	adds(t, fine, class("A", "Object", "I", field(0, "x", "I"), field(4, "y", "I"), does(0, "f", "()V"), does(4, "g", "()V")), face("I", owes("f", "()V")))
	for i, w := range []*hier.World{hier.New(), stray, fine} {
		for _, a := range manyNames() {
			for _, b := range manyNames() {
				if w.Above(a, b) || w.Common(a, b) != "" || w.Common(a) != "" {
					t.Errorf("%d: %s, %s", i, a, b)
				}
			}
			if len(w.Chain(a))+len(w.Faces(a))+len(w.Layout(a)) > 0 {
				t.Errorf("%d: %s", i, a)
			}
			looseMembers(t, w, a)
		}
		for _, a := range manyTypes() {
			for _, b := range manyTypes() {
				if w.Sub(a, b) {
					t.Errorf("%d: Sub(%v, %v)", i, a, b)
				}
			}
		}
		if w.Common() != "" || w.Linked() {
			t.Errorf("%d", i)
		}
	}
	if s, e := fine.Link(); s != "" || e != api.OK {
		t.Errorf("%s, %v", s, e)
	}
}

// looseMembers asks for members: ErrLoose comes ahead of all other errors.
func looseMembers(t *testing.T, w *hier.World, class string) {
	t.Helper()
	for _, name := range []string{"x", "y", "f", "g", "<init>", ""} {
		for _, static := range []bool{false, true} {
			if s, i, e := w.Field(class, name, api.Type{}, static); s != (hier.Slot{}) || i != 0 || e != api.ErrLoose {
				t.Errorf("Field(%s, %s): %v, %d, %v", class, name, s, i, e)
			}
		}
		for _, g := range manySigs() {
			for _, op := range []int{api.ICall, api.IFace, api.IStatic, api.IInit, api.INew, -1} {
				if s, i, e := w.Method(op, class, name, g); s != "" || i != 0 || e != api.ErrLoose {
					t.Errorf("Method(%d, %s, %s): %s, %d, %v", op, class, name, s, i, e)
				}
			}
			if s, i, ok := w.Pick(class, name, g); s != "" || i != 0 || ok {
				t.Errorf("Pick(%s, %s): %s, %d", class, name, s, i)
			}
		}
	}
}
