package hier_test

import (
	"slices"
	"strconv"
	"strings"
	"testing"

	"keystone/api"
	"keystone/hier"
)

// fields is a world whose classes have fields of all kinds: C below B below A; B has none.
func fields(t *testing.T) *hier.World {
	t.Helper()
	return world(t,
		class("C", "B", field(0, "x", "[I"), field(4, "s", "LA;"), field(0, "w", "LC;"), field(4, "u", "I")),
		class("A", "Object", field(4, "t", "I"), field(0, "x", "I"), field(4, "s", "I"), field(0, "y", "LB;"), field(0, "u", "I")),
		class("B", "A"), class("D", "A", field(0, "t", "I"), field(0, "z", "I")), face("I"), class("E", "DivError", field(0, "x", "LI;")))
}

// P605: Object's first, each class's in order, static ones left out.
func TestLayout(t *testing.T) {
	w := fields(t)
	slot := func(class, name, s string) hier.Slot { return hier.Slot{Class: class, Field: field(0, name, s)} }
	a := []hier.Slot{slot("A", "x", "I"), slot("A", "y", "LB;"), slot("A", "u", "I")}
	for _, x := range []struct {
		class string
		want  []hier.Slot
	}{
		{"A", a}, {"B", a}, {"C", append(slices.Clone(a), slot("C", "x", "[I"), slot("C", "w", "LC;"))}, {"D", append(slices.Clone(a), slot("D", "t", "I"), slot("D", "z", "I"))}, {"E", []hier.Slot{slot("E", "x", "LI;")}},
		{"I", nil}, {"Object", nil}, {"HeapError", nil}, {"X", nil}, {"", nil},
	} {
		if l := w.Layout(x.class); !slices.Equal(l, x.want) {
			t.Errorf("Layout(%s): %v, wanted %v", x.class, l, x.want)
		}
	}
}

// P605, P606: the most fields that there may be.
func TestWidestLayout(t *testing.T) {
	l := chain(31, "Object")
	for i := range l {
		for j := range 64 {
			l[i].Fields = append(l[i].Fields, field(j%2*4, "f"+strconv.Itoa(i)+"_"+strconv.Itoa(j), "I"))
		}
	}
	w := world(t, l...)
	all := w.Layout("L30")
	if len(all) != 31*32 || all[0].Name != "f0_0" || all[1].Name != "f0_2" || all[31*32-1].Name != "f30_62" || all[31*32-1].Class != "L30" {
		t.Errorf("%d: %v", len(all), all)
	}
	for i, slot := range all {
		if s, n, e := w.Field("L30", slot.Name, api.Type{}, false); s != slot || n != i || e != api.OK {
			t.Errorf("%v, %d, %v, wanted %v, %d", s, n, e, slot, i)
		}
	}
	if s, n, e := w.Field("L30", "f7_63", api.Type{}, true); s.Class != "L7" || s.Flags != api.FStatic || n != 63 || e != api.OK {
		t.Errorf("%v, %d, %v", s, n, e)
	}
}

// P606: fields that are found: their class, their number.
func TestField(t *testing.T) {
	w := fields(t)
	for _, x := range []struct {
		class, name, s string
		flags          int
		has            string
		n              int
	}{
		{"A", "x", "I", 0, "A", 0}, {"A", "y", "LB;", 0, "A", 1}, {"A", "u", "I", 0, "A", 2}, {"A", "t", "I", 4, "A", 0}, {"A", "s", "I", 4, "A", 2},
		{"B", "x", "I", 0, "A", 0}, {"B", "u", "I", 0, "A", 2}, {"B", "s", "I", 4, "A", 2},
		{"C", "x", "[I", 0, "C", 3}, {"C", "w", "LC;", 0, "C", 4}, {"C", "y", "LB;", 0, "A", 1}, {"C", "s", "LA;", 4, "C", 1}, {"C", "u", "I", 4, "C", 3}, {"C", "t", "I", 4, "A", 0},
		{"D", "t", "I", 0, "D", 3}, {"D", "z", "I", 0, "D", 4}, {"D", "s", "I", 4, "A", 2}, {"E", "x", "LI;", 0, "E", 0},
	} {
		want := hier.Slot{Class: x.has, Field: field(x.flags, x.name, x.s)}
		if s, n, e := w.Field(x.class, x.name, typ(x.s), x.flags == 4); s != want || n != x.n || e != api.OK {
			t.Errorf("Field(%s, %s): %v, %d, %v, wanted %v, %d", x.class, x.name, s, n, e, want, x.n)
		}
	}
}

// P606: those that are not: the nearest one hides those above it, whatever it is.
func TestNoField(t *testing.T) {
	w := fields(t)
	for _, x := range []struct {
		class, name, s string
		static         bool
	}{
		{"X", "x", "I", false}, {"", "x", "I", false}, {"A", "z", "I", false}, {"A", "", "I", false}, {"A", "w", "LC;", false}, {"B", "z", "I", false}, {"Object", "x", "I", false}, {"I", "x", "I", false}, {"HeapError", "x", "LI;", false},
		{"A", "x", "I", true}, {"A", "s", "I", false}, {"A", "x", "[I", false}, {"A", "x", "LA;", false}, {"A", "y", "LA;", false}, {"A", "y", "[LB;", false}, {"A", "s", "LA;", true}, {"A", "y", "LObject;", false},
		{"C", "x", "I", false}, {"C", "x", "I", true}, {"C", "s", "I", true}, {"C", "u", "I", false}, {"D", "t", "I", true}, {"C", "w", "LX;", false},
	} {
		if s, n, e := w.Field(x.class, x.name, typ(x.s), x.static); s != (hier.Slot{}) || n != 0 || e != api.ErrMember {
			t.Errorf("Field(%s, %s, %s, %v): %v, %d, %v", x.class, x.name, x.s, x.static, s, n, e)
		}
	}
	for _, bad := range []api.Type{{Dims: 9}, {Dims: -1}, {Name: "1"}} {
		if s, n, e := w.Field("A", "x", bad, false); s != (hier.Slot{}) || n != 0 || e != api.ErrMember {
			t.Errorf("%v: %v, %d, %v", bad, s, n, e)
		}
	}
}

// methods is a world whose classes have methods of all kinds: C below B below A, which is open; J a face of I, K one of J and of B.
func methods(t *testing.T) *hier.World {
	t.Helper()
	return world(t,
		class("C", "B", "I", does(4, "t", "()V"), does(0, "f", "(I)V"), does(0, "i", "()V"), does(0, "<init>", "(I)V")),
		class("B", "A", "K", does(0, "<init>", "()V"), does(0, "<init>", "(LA;)V"), does(0, "a", "()V"), does(0, "k", "()V"), does(0, "f", "()I")),
		open("A", "Object", does(0, "f", "()V"), owes("a", "()V"), does(4, "s", "()V"), does(4, "s", "(I)V"), does(0, "f", "()I"), does(0, "j", "()V")),
		open("D", "C", owes("f", "()V")),
		face("I", "J", owes("i", "()V")), face("J", "K", owes("j", "()V"), owes("k", "()V")), face("K", owes("k", "()V")))
}

// tells holds Method against a class and a place, parted by a blank; where there is none against ErrMember.
func tells(t *testing.T, w *hier.World, op int, class, name, s, want string) {
	t.Helper()
	has, n, e := w.Method(op, class, name, sig(s))
	if want == "" {
		if has != "" || n != 0 || e != api.ErrMember {
			t.Errorf("Method(%d, %s, %s, %s): %s, %d, %v", op, class, name, s, has, n, e)
		}
		return
	}
	if has+" "+strconv.Itoa(n) != want || e != api.OK {
		t.Errorf("Method(%d, %s, %s, %s): %s, %d, %v, wanted %s", op, class, name, s, has, n, e, want)
	}
}

// P607: ICall and IStatic: the nearest one, of the kind that is asked for.
func TestMethodByCall(t *testing.T) {
	w := methods(t)
	for _, x := range []struct{ class, name, s, call, static string }{
		{"A", "f", "()V", "A 0", ""}, {"A", "a", "()V", "A 1", ""}, {"A", "s", "()V", "", "A 2"}, {"A", "s", "(I)V", "", "A 3"}, {"A", "f", "()I", "A 4", ""},
		{"B", "f", "()V", "A 0", ""}, {"B", "a", "()V", "B 2", ""}, {"B", "s", "(I)V", "", "A 3"}, {"B", "f", "()I", "B 4", ""}, {"B", "k", "()V", "B 3", ""}, {"B", "j", "()V", "A 5", ""},
		{"C", "f", "()V", "A 0", ""}, {"C", "f", "(I)V", "C 1", ""}, {"C", "a", "()V", "B 2", ""}, {"C", "s", "()V", "", "A 2"}, {"C", "t", "()V", "", "C 0"}, {"C", "i", "()V", "C 2", ""}, {"D", "f", "()V", "D 0", ""}, {"D", "f", "()I", "B 4", ""}, {"D", "t", "()V", "", "C 0"},
		{"A", "k", "()V", "", ""}, {"A", "f", "(I)V", "", ""}, {"B", "t", "()V", "", ""}, {"A", "f", "()[I", "", ""}, {"A", "F", "()V", "", ""}, {"A", "", "()V", "", ""}, {"Object", "f", "()V", "", ""},
		{"B", "<init>", "()V", "", ""}, {"Object", "<init>", "()V", "", ""}, {"HeapError", "<init>", "()V", "", ""},
		{"I", "i", "()V", "", ""}, {"K", "k", "()V", "", ""}, {"X", "f", "()V", "", ""}, {"", "f", "()V", "", ""},
	} {
		tells(t, w, api.ICall, x.class, x.name, x.s, x.call)
		tells(t, w, api.IStatic, x.class, x.name, x.s, x.static)
	}
}

// P607: IFace: of the interface first, then of its faces as they are walked.
func TestMethodByFace(t *testing.T) {
	w := methods(t)
	for _, x := range []struct{ class, name, s, want string }{
		{"I", "i", "()V", "I 0"}, {"I", "j", "()V", "J 0"}, {"I", "k", "()V", "J 1"}, {"J", "k", "()V", "J 1"}, {"J", "j", "()V", "J 0"}, {"K", "k", "()V", "K 0"},
		{"K", "j", "()V", ""}, {"J", "i", "()V", ""}, {"I", "k", "()I", ""}, {"I", "<init>", "()V", ""}, {"I", "f", "()V", ""},
		{"C", "i", "()V", ""}, {"B", "k", "()V", ""}, {"A", "f", "()V", ""}, {"Object", "<init>", "()V", ""}, {"X", "i", "()V", ""},
	} {
		tells(t, w, api.IFace, x.class, x.name, x.s, x.want)
	}
	w = world(t, face("I", "J", "K"), face("J", "L"), face("K", owes("f", "()V")), face("L", owes("g", "()V"), owes("f", "()V")))
	tells(t, w, api.IFace, "I", "f", "()V", "L 1")
	w = world(t, face("I", "K", "J"), face("J", "L"), face("K", owes("f", "()V")), face("L", owes("g", "()V"), owes("f", "()V")))
	tells(t, w, api.IFace, "I", "f", "()V", "K 0")
	tells(t, w, api.IFace, "J", "f", "()V", "L 1")
}

// P607: IInit: the class's own constructor alone.
func TestMethodByInit(t *testing.T) {
	w := methods(t)
	for _, x := range []struct{ class, name, s, want string }{
		{"B", "<init>", "()V", "B 0"}, {"B", "<init>", "(LA;)V", "B 1"}, {"C", "<init>", "(I)V", "C 3"},
		{"C", "<init>", "()V", ""}, {"C", "<init>", "(LA;)V", ""}, {"B", "<init>", "(LB;)V", ""}, {"A", "<init>", "()V", ""}, {"D", "<init>", "(I)V", ""}, {"B", "<init>", "()I", ""},
		{"B", "a", "()V", ""}, {"C", "t", "()V", ""}, {"I", "<init>", "()V", ""}, {"I", "i", "()V", ""}, {"X", "<init>", "()V", ""},
	} {
		tells(t, w, api.IInit, x.class, x.name, x.s, x.want)
	}
	for _, name := range strings.Fields(givenNames) {
		tells(t, w, api.IInit, name, "<init>", "()V", name+" 0")
		tells(t, w, api.IInit, name, "<init>", "(I)V", "")
	}
}

// P607, P6: operations that ask for no method come ahead of a class that is not there.
func TestMethodOfNoOperation(t *testing.T) {
	w := methods(t)
	for op := -2; op < 300; op++ {
		want := api.ErrKind
		if op == api.ICall || op == api.IFace || op == api.IStatic || op == api.IInit {
			want = api.ErrMember
		}
		for _, class := range []string{"X", "A", "I", ""} {
			if s, n, e := w.Method(op, class, "none", sig("()V")); s != "" || n != 0 || e != want {
				t.Errorf("Method(%d, %s): %s, %d, %v", op, class, s, n, e)
			}
		}
	}
	if _, _, e := w.Method(api.IGet, "A", "f", sig("()V")); e != api.ErrKind {
		t.Error(e)
	}
}

// P607, P608: signatures are held against each other as a whole; no list and an empty one are the same.
func TestMethodOfOddSignatures(t *testing.T) {
	w := methods(t)
	for _, g := range []api.Sig{{Void: true}, {Void: true, Params: []api.Type{}}} {
		if s, n, e := w.Method(api.ICall, "C", "f", g); s != "A" || n != 0 || e != api.OK {
			t.Errorf("%v: %s, %d, %v", g, s, n, e)
		}
		if s, n, ok := w.Pick("C", "f", g); s != "A" || n != 0 || !ok {
			t.Errorf("%v: %s, %d", g, s, n)
		}
	}
	for _, g := range []api.Sig{
		{Void: true, Result: api.Type{Dims: 1}}, {Void: true, Result: api.Type{Name: "A"}}, {Result: api.Type{Dims: 9}}, {Result: api.Type{Name: "V"}}, {Result: api.Type{Name: "1"}},
		{Void: true, Params: make([]api.Type, 17)}, {Void: true, Params: []api.Type{{Dims: -1}}}, {Void: true, Params: []api.Type{{Name: ";"}}}, {Void: true, Params: make([]api.Type, 100000)},
	} {
		for _, op := range []int{api.ICall, api.IStatic, api.IFace, api.IInit} {
			for _, class := range []string{"C", "I", "Object"} {
				for _, name := range []string{"f", "i", "s", "<init>"} {
					if s, n, e := w.Method(op, class, name, g); s != "" || n != 0 || e != api.ErrMember {
						t.Errorf("%.100v: %s, %d, %v", g, s, n, e)
					}
				}
			}
		}
		if s, n, ok := w.Pick("C", "f", g); s != "" || n != 0 || ok {
			t.Errorf("%.100v: %s, %d", g, s, n)
		}
	}
}

// P608: the nearest one, if it has code.
func TestPick(t *testing.T) {
	w := methods(t)
	for _, x := range []struct{ class, name, s, want string }{
		{"A", "f", "()V", "A 0"}, {"B", "f", "()V", "A 0"}, {"C", "f", "()V", "A 0"}, {"B", "f", "()I", "B 4"}, {"C", "f", "()I", "B 4"}, {"D", "f", "()I", "B 4"}, {"A", "f", "()I", "A 4"}, {"B", "a", "()V", "B 2"}, {"C", "k", "()V", "B 3"}, {"C", "j", "()V", "A 5"}, {"C", "i", "()V", "C 2"}, {"D", "f", "(I)V", "C 1"},
		{"A", "a", "()V", ""}, {"D", "f", "()V", ""}, {"A", "s", "()V", ""}, {"C", "s", "(I)V", ""}, {"C", "t", "()V", ""}, {"B", "<init>", "()V", ""}, {"B", "<init>", "(LA;)V", ""}, {"Object", "<init>", "()V", ""}, {"HeapError", "<init>", "()V", ""},
		{"I", "i", "()V", ""}, {"K", "k", "()V", ""}, {"I", "<init>", "()V", ""}, {"A", "none", "()V", ""}, {"A", "f", "([I)V", ""}, {"X", "f", "()V", ""}, {"", "f", "()V", ""},
	} {
		s, n, ok := w.Pick(x.class, x.name, sig(x.s))
		if x.want == "" {
			if s != "" || n != 0 || ok {
				t.Errorf("Pick(%s, %s, %s): %s, %d", x.class, x.name, x.s, s, n)
			}
		} else if s+" "+strconv.Itoa(n) != x.want || !ok {
			t.Errorf("Pick(%s, %s, %s): %s, %d, %v, wanted %s", x.class, x.name, x.s, s, n, ok, x.want)
		}
	}
}
