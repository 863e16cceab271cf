package desc_test

import (
	"math"
	"slices"
	"strings"
	"testing"

	"keystone/api"
	"keystone/desc"
)

// The first example of the chapter.
func TestExampleTexts(t *testing.T) {
	if x, e := desc.Type("[[LNode;"); x != (api.Type{Dims: 2, Name: "Node"}) || e != api.OK {
		t.Errorf("%v, %v", x, e)
	}
	for _, s := range []string{"L;", "[", "II", "L1;"} {
		refused(t, s)
	}
	if g, e := desc.Sig("(I[ILA;)V"); len(g.Params) != 3 || !g.Void || e != api.OK {
		t.Errorf("%v, %v", g, e)
	}
	if g, e := desc.Sig("()I"); len(g.Params) != 0 || g.Void || !desc.Number(g.Result) || e != api.OK {
		t.Errorf("%v, %v", g, e)
	}
}

// The second example.
func TestExampleMade(t *testing.T) {
	g, e := desc.Make(false, api.Type{})
	if s, f := desc.SigText(g); s != "()I" || e != api.OK || f != api.OK {
		t.Errorf("%v, %q, %v, %v", g, s, e, f)
	}
	if g, e := desc.Make(false); !none(g) || e != api.ErrNone {
		t.Errorf("%v, %v", g, e)
	}
	if !desc.Method("<init>") || desc.Name("<init>") {
		t.Error("<init>")
	}
}

// P1: no call panics, and each ends, whatever texts it is handed.
func TestNoPanicOfTexts(t *testing.T) {
	long := 1 << 20
	for _, s := range []string{
		strings.Repeat("[", long), strings.Repeat("L", long), strings.Repeat("(", long), strings.Repeat(";", long), strings.Repeat("LA;", long), strings.Repeat("\x00", long),
		"(" + strings.Repeat("I", long), "(" + strings.Repeat("[", long), "(" + strings.Repeat("LA;", long), "(L" + strings.Repeat("A", long), "()" + strings.Repeat("[", long), "()L" + strings.Repeat("A", long) + ";",
	} {
		refused(t, s)
		sigRefused(t, s, api.ErrType)
		if desc.Method(s) {
			t.Errorf("%q.. is a method's name", s[:9])
		}
	}
	for c := range 256 {
		s := string([]byte{byte(c)})
		for _, x := range []string{s, s + "I", "I" + s, "[" + s, "L" + s + ";", "(" + s, "(" + s + ")V", "()" + s, "()V" + s, s + "()V"} {
			if y, e := desc.Type(x); e != api.OK && y != (api.Type{}) {
				t.Errorf("%q: %v, %v", x, y, e)
			}
			if g, e := desc.Sig(x); e != api.OK && !none(g) {
				t.Errorf("%q: %v, %v", x, g, e)
			}
		}
	}
}

// wild is types of all kinds, right ones and others.
func wild() []api.Type {
	var l []api.Type
	for _, dims := range []int{math.MinInt, -1, 0, 1, 8, 9, math.MaxInt} {
		for _, name := range []string{"", "A", "1", "\xff", ";", strings.Repeat("x", 1<<10)} {
			l = append(l, api.Type{Dims: dims, Name: name})
		}
	}
	return l
}

// P1, P3, P4: no call panics, whatever types it is handed; twice asked, it answers the same; beside an error there is nothing.
func TestNoPanicOfTypes(t *testing.T) {
	for _, a := range wild() {
		for _, b := range wild() {
			for _, void := range []bool{false, true} {
				g := api.Sig{Params: []api.Type{a, b}, Void: void, Result: b}
				s, e := desc.SigText(g)
				if (e == api.OK) != (s != "") {
					t.Errorf("%v: %q, %v", g, s, e)
				}
				if again, f := desc.SigText(g); again != s || f != e {
					t.Errorf("%v: %q, %v, then %q, %v", g, s, e, again, f)
				}
				h, e := desc.Make(void, a, b)
				if e != api.OK && !none(h) {
					t.Errorf("%v, %v: %v, %v", a, b, h, e)
				}
				if !desc.Same(g, g) || len(desc.Classes(a, b, a, b)) > 2 {
					t.Errorf("%v", g)
				}
			}
		}
	}
}

// spoil writes over a list, its spare room too.
func spoil(l []api.Type) {
	l = l[:cap(l)]
	for i := range l {
		l[i] = api.Type{Dims: -7, Name: "spoiled"}
	}
}

// P2: what is handed in is not changed, its spare room neither.
func TestNothingIsChanged(t *testing.T) {
	whole := []api.Type{{Name: "A"}, {Dims: 1}, {}, {Dims: 9}, {Name: "1"}, {Name: "B"}}
	for n := range len(whole) + 1 {
		for _, void := range []bool{false, true} {
			l := slices.Clone(whole)
			g, _ := desc.Make(void, l[:n]...)
			spoil(g.Params)
			desc.Classes(l[:n]...)
			desc.SigText(api.Sig{Params: l[:n], Void: void})
			desc.Same(api.Sig{Params: l[:n]}, api.Sig{Params: l[:n]})
			if !slices.Equal(l, whole) {
				t.Errorf("%d: %v, was %v", n, l, whole)
			}
		}
	}
}

// P2: what Make answers is not what it was handed.
func TestMakeKeepsNothing(t *testing.T) {
	a, row := api.Type{Name: "A"}, api.Type{Dims: 1}
	for _, void := range []bool{false, true} {
		l := append(make([]api.Type, 0, 8), a, row, a)
		want := api.Sig{Params: []api.Type{a, row, a}, Void: true}
		if !void {
			want = api.Sig{Params: []api.Type{a, row}, Result: a}
		}
		g, e := desc.Make(void, l...)
		h, _ := desc.Make(void, l...)
		spoil(l)
		if !equal(g, want) || e != api.OK {
			t.Errorf("%v: %v, %v", void, g, e)
		}
		spoil(g.Params)
		if !equal(h, want) {
			t.Errorf("two answers share memory: %v", h)
		}
	}
}

// P2: what Sig and Classes answer is nobody else's.
func TestAnswersAreNew(t *testing.T) {
	g, _ := desc.Sig("(I[ILA;)V")
	spoil(g.Params)
	sigReads(t, "(I[ILA;)V", api.Sig{Params: []api.Type{{}, {Dims: 1}, {Name: "A"}}, Void: true})
	l := []api.Type{{Name: "A"}, {Name: "B"}}
	names := desc.Classes(l...)
	again := desc.Classes(l...)
	names[0], names[1] = "x", "y"
	if !slices.Equal(again, []string{"A", "B"}) || l[0].Name != "A" || l[1].Name != "B" {
		t.Errorf("%q, %v", again, l)
	}
}
