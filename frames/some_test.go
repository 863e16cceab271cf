package frames_test

import (
	"fmt"
	"math"
	"math/rand"
	"strings"
	"testing"

	"keystone/api"
	"keystone/desc"
	"keystone/hier"
)

// The kinds of knowledge that have one value each.
var (
	num  = api.VType{Kind: api.VNum}
	null = api.VType{Kind: api.VNil}
	top  = api.VType{Kind: api.VTop}
)

// ref is knowledge of a type by its text; fresh and self are of a class.
func ref(s string) api.VType {
	t, e := desc.Type(s)
	if e != api.OK {
		panic(s)
	}
	return api.VType{Kind: api.VRef, Type: t}
}

func fresh(at int, class string) api.VType {
	return api.VType{Kind: api.VFresh, Type: api.Type{Name: class}, At: at}
}

func self(class string) api.VType {
	return api.VType{Kind: api.VSelf, Type: api.Type{Name: class}}
}

// row is some knowledge, of the Locals or the Stack of a frame; of is a frame.
func row(l ...api.VType) []api.VType { return l }

func of(self api.VType, locals, stack []api.VType) api.Frame {
	return api.Frame{Self: self, Locals: locals, Stack: stack}
}

// method is one with code that does nothing; owed is one without code.
func method(flags int, name, sig string, locals int) api.Method {
	g, e := desc.Sig(sig)
	if e != api.OK {
		panic(sig)
	}
	return api.Method{Flags: flags, Name: name, Sig: g, Locals: locals, Code: []byte{api.IReturn}}
}

func owed(name, sig string) api.Method {
	m := method(api.FAbstract, name, sig, 0)
	m.Code = nil
	return m
}

// class is one with these methods.
func class(flags int, name, super string, l ...api.Method) api.Class {
	return api.Class{Flags: flags, Name: name, Super: super, Methods: l}
}

// world is these classes, linked; loose is as they were added.
func world(t *testing.T, l ...api.Class) *hier.World {
	t.Helper()
	w := loose(t, l...)
	if s, e := w.Link(); e != api.OK {
		t.Fatalf("Link: %s, %v", s, e)
	}
	return w
}

func loose(t *testing.T, l ...api.Class) *hier.World {
	t.Helper()
	w := hier.New()
	if e := w.Add(api.Module{Classes: l}); e != api.OK {
		t.Fatalf("Add: %v", e)
	}
	return w
}

// family has A with methods of all sorts, B and C below it, D below C, an abstract class and an interface.
func family() []api.Class {
	return []api.Class{
		class(0, "A", "Object",
			method(api.FStatic, "s", "(I)V", 3),
			method(0, "<init>", "()V", 1),
			method(0, "<init>", "(I[LB;)V", 5),
			method(0, "f", "(LB;I[[I)LA;", 4),
			method(api.FStatic, "none", "()V", 0)),
		class(0, "B", "A", method(0, "g", "()I", 2)),
		class(0, "C", "A"),
		class(0, "D", "C"),
		class(api.FAbstract, "E", "Object", owed("h", "()V"), method(0, "k", "()V", 1)),
		class(api.FFace, "I", "Object", owed("h", "()V")),
	}
}

// known is right knowledge of every kind, of the classes of family.
func known() []api.VType {
	l := row(num, null, top, ref("[I"), ref("[[LA;"), fresh(0, "A"), fresh(7, "A"), fresh(7, "B"), self("A"))
	for _, s := range []string{"Object", "DivError", "NilError", "A", "B", "C", "D", "E", "I"} {
		l = append(l, ref("L"+s+";"))
	}
	return l
}

// selves is knowledge that a right frame's Self may be.
func selves() []api.VType { return row(top, self("A"), ref("LA;"), ref("LB;")) }

// some are so many of l.
func some(r *rand.Rand, l []api.VType, n int) []api.VType {
	var got []api.VType
	for range n {
		got = append(got, l[r.Intn(len(l))])
	}
	return got
}

// someFrame is a right reached frame; sometimes, one that is not reached.
func someFrame(r *rand.Rand, locals, stack int) api.Frame {
	if r.Intn(8) == 0 {
		return api.Frame{}
	}
	return of(some(r, selves(), 1)[0], some(r, known(), locals), some(r, known(), stack))
}

// odd is right knowledge and such as may not be.
var odd = oddKnown()

func oddKnown() []api.VType {
	l := append(known(), api.VType{})
	for _, kind := range []int{math.MinInt, -1, 0, 1, 2, 3, 4, 5, 6, 7, math.MaxInt} {
		for _, t := range []api.Type{{}, {Name: "A"}, {Name: "None"}, {Name: "\xff a"}, {Dims: -1}, {Dims: 9, Name: "A"}} {
			for _, at := range []int{math.MinInt, 0, 12} {
				l = append(l, api.VType{Kind: kind, Type: t, At: at})
			}
		}
	}
	return l
}

// oddFrame is of any knowledge, of any numbers of places, reached or not.
func oddFrame(r *rand.Rand) api.Frame {
	f := of(some(r, odd, 1)[0], some(r, odd, r.Intn(4)), some(r, odd, r.Intn(4)))
	if r.Intn(4) == 0 {
		f.Self.Kind = api.VNone
	}
	if r.Intn(4) == 0 {
		f.Self = api.VType{}
	}
	return f
}

// text writes a frame, so that an empty row and none are the same.
func text(f api.Frame) string {
	return fmt.Sprintf("%#v|%s|%s", f.Self, rowText(f.Locals), rowText(f.Stack))
}

func rowText(l []api.VType) string {
	var b strings.Builder
	for _, a := range l {
		fmt.Fprintf(&b, "%#v;", a)
	}
	return b.String()
}
