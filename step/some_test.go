package step_test

import (
	"fmt"
	"math"
	"math/rand"
	"slices"
	"strconv"
	"strings"
	"testing"

	"keystone/api"
	"keystone/desc"
	"keystone/hier"
	"keystone/instr"
	"keystone/pool"
	"keystone/step"
)

// The kinds of knowledge that have one value each.
var (
	num  = api.VType{Kind: api.VNum}
	null = api.VType{Kind: api.VNil}
	top  = api.VType{Kind: api.VTop}
)

// typ is a type, sig a signature by its text.
func typ(s string) api.Type {
	t, e := desc.Type(s)
	if e != api.OK {
		panic(s)
	}
	return t
}

func sig(s string) api.Sig {
	g, e := desc.Sig(s)
	if e != api.OK {
		panic(s)
	}
	return g
}

func ref(s string) api.VType { return api.VType{Kind: api.VRef, Type: typ(s)} }

func fresh(at int, class string) api.VType {
	return api.VType{Kind: api.VFresh, Type: api.Type{Name: class}, At: at}
}

func self(class string) api.VType {
	return api.VType{Kind: api.VSelf, Type: api.Type{Name: class}}
}

// row is some knowledge, by words: num, nil, top; a type's text; A@7 is fresh from place 7, A! a constructor's own.
func row(s string) []api.VType {
	var l []api.VType
	for _, word := range strings.Fields(s) {
		l = append(l, knowledge(word))
	}
	return l
}

func knowledge(word string) api.VType {
	class, at, made := strings.Cut(word, "@")
	switch {
	case word == "num":
		return num
	case word == "nil":
		return null
	case word == "top":
		return top
	case made:
		n, e := strconv.Atoi(at)
		if e != nil {
			panic(word)
		}
		return fresh(n, class)
	case strings.HasSuffix(word, "!"):
		return self(strings.TrimSuffix(word, "!"))
	}
	return ref(word)
}

// of is a frame: what is known of Self, the Locals, the Stack.
func of(own, locals, stack string) api.Frame {
	return api.Frame{Self: knowledge(own), Locals: row(locals), Stack: row(stack)}
}

// entry puts into a builder what a text says: `number 5`, `class A`, `type [I`, `field A x I`, `method A f (I)I`.
func entry(b *pool.Builder, s string) (int, api.Errno) {
	w := strings.Fields(s)
	switch w[0] {
	case "number":
		n, _ := strconv.ParseInt(w[1], 10, 64)
		return b.Number(n)
	case "class":
		return b.Class(w[1])
	case "type":
		return b.Type(typ(w[1]))
	case "field":
		return b.Field(w[1], w[2], typ(w[3]))
	case "method":
		return b.Method(w[1], w[2], sig(w[3]))
	}
	panic(s)
}

// poolOf is the pool of these entries.
func poolOf(l ...string) []api.Entry {
	b := pool.New()
	for _, s := range l {
		if _, e := entry(b, s); e != api.OK {
			panic(s)
		}
	}
	return b.Pool()
}

// kinds are those of the entries that operations have.
var kinds = map[string][]string{
	"number": {"number"}, "class": {"new"}, "type": {"array", "cast", "is"},
	"field": {"get", "put", "gets", "puts"}, "method": {"call", "face", "static", "init"},
}

// in is an instruction over a pool, by its text: a word, and what its entry says, or its number. `7: new A` is at place 7.
func in(l []api.Entry, s string) api.Instr {
	i := api.Instr{}
	if at, rest, placed := strings.Cut(s, ": "); placed {
		i.At, _ = strconv.Atoi(at)
		s = rest
	}
	word, rest, _ := strings.Cut(s, " ")
	op, ok := instr.Op(word)
	if !ok {
		panic(s)
	}
	i.Op, i.Size = op, instr.Size(op)
	for kind, words := range kinds {
		for _, w := range words {
			if w != word {
				continue
			}
			n, e := entry(pool.New(l...), kind+" "+rest)
			if e != api.OK || n >= len(l) {
				panic("no entry: " + s)
			}
			i.N = n
			return i
		}
	}
	if rest != "" {
		n, e := strconv.Atoi(rest)
		if e != nil {
			panic(s)
		}
		i.N = n
	}
	return i
}

// method is one with code that does nothing; owed is one without code.
func method(flags int, name, g string, stack, locals int) api.Method {
	return api.Method{Flags: flags, Name: name, Sig: sig(g), Stack: stack, Locals: locals, Code: []byte{api.IReturn}}
}

func owed(name, g string) api.Method {
	return api.Method{Flags: api.FAbstract, Name: name, Sig: sig(g)}
}

func field(flags int, name, t string) api.Field {
	return api.Field{Flags: flags, Name: name, Type: typ(t)}
}

// poolA is that of the first module of family; poolQ that of the second one: its numbers say other things.
var poolA = poolOf(
	"number 5", "number -1",
	"class A", "class B", "class C", "class E", "class I", "class J", "class K", "class X", "class Object", "class DivError",
	"type I", "type LA;", "type LI;", "type LObject;", "type [I", "type [LA;", "type [[[[[[[I", "type [[[[[[[[I", "type [[[[[[[[LA;", "type LX;",
	"field A x I", "field A p LA;", "field A n [I", "field A s LA;", "field A t I", "field A x LA;", "field A none I", "field A q LI;",
	"field B x I", "field B p LA;", "field B t I", "field C y LB;", "field Object x I", "field I x I",
	"method A f (I)I", "method A <init> ()V", "method A <init> (ILB;)V", "method A s (ILA;)V", "method A g ()V", "method A o ()LA;", "method A a ()[LA;",
	"method A f ()I", "method A none ()V", "method A <init> ()I", "method A <init> (I)V",
	"method B f (I)I", "method B a ()[LA;", "method B <init> ()V", "method B s (ILA;)V",
	"method C h (ILA;)[I", "method C <init> (I)V", "method C <init> ()V", "method C g ()V", "method C m (LI;[ILObject;)LK;",
	"method E q ()I", "method E <init> ()V", "method E k ()V",
	"method I g ()V", "method J g ()V", "method J h (ILA;)[I", "method J none ()V", "method I f (I)I", "method I s (ILA;)V", "method I <init> ()V",
	"method Object <init> ()V", "method Object g ()V", "method X <init> ()V", "method Throwable <init> ()V", "method DivError <init> ()V",
)

var poolQ = poolOf("class Q", "class A", "number 7", "field A x I", "method A <init> ()V", "type [I")

// family has I, J below it, K: interfaces; A, B below it, C below that; E, which is abstract; X, an exception; and Q, below A, of another module.
func family() []api.Module {
	return []api.Module{{Pool: poolA, Classes: []api.Class{
		{Flags: api.FFace, Name: "I", Super: "Object", Methods: []api.Method{owed("g", "()V")}},
		{Flags: api.FFace, Name: "J", Super: "Object", Faces: []string{"I"}, Methods: []api.Method{owed("h", "(ILA;)[I")}},
		{Flags: api.FFace, Name: "K", Super: "Object"},
		{Name: "A", Super: "Object", Faces: []string{"I"},
			Fields: []api.Field{field(0, "x", "I"), field(0, "p", "LA;"), field(0, "n", "[I"), field(api.FStatic, "s", "LA;"), field(api.FStatic, "t", "I"), field(0, "q", "LI;")},
			Methods: []api.Method{
				method(0, "f", "(I)I", 4, 2),
				method(0, "<init>", "()V", 3, 1),
				method(0, "<init>", "(ILB;)V", 4, 3),
				method(api.FStatic, "s", "(ILA;)V", 3, 2),
				method(0, "g", "()V", 0, 1),
				method(0, "o", "()LA;", 2, 1),
				method(api.FStatic, "a", "()[LA;", 4, 0),
				method(api.FStatic, "i", "()LI;", 64, 64),
			}},
		{Name: "B", Super: "A", Fields: []api.Field{field(api.FStatic, "x", "I")}, Methods: []api.Method{method(0, "<init>", "()V", 2, 1)}},
		{Name: "C", Super: "B", Faces: []string{"J"}, Fields: []api.Field{field(0, "y", "LB;")}, Methods: []api.Method{
			method(0, "h", "(ILA;)[I", 1, 3), method(0, "<init>", "(I)V", 2, 2), method(0, "m", "(LI;[ILObject;)LK;", 1, 4)}},
		{Flags: api.FAbstract, Name: "E", Super: "Object", Methods: []api.Method{owed("q", "()I"), method(0, "<init>", "()V", 1, 1), method(0, "k", "()V", 1, 1)}},
		{Name: "X", Super: "Throwable", Methods: []api.Method{method(0, "<init>", "()V", 1, 1)}},
	}}, {Pool: poolQ, Classes: []api.Class{
		{Name: "Q", Super: "A", Methods: []api.Method{method(0, "m", "()V", 2, 1), method(0, "<init>", "()V", 2, 1)}},
	}}}
}

// loose is the family as it was added; world is it, linked.
func loose(t *testing.T) *hier.World {
	t.Helper()
	w := hier.New()
	for _, m := range family() {
		if e := w.Add(m); e != api.OK {
			t.Fatalf("Add: %v", e)
		}
	}
	return w
}

func world(t *testing.T) *hier.World {
	t.Helper()
	w := loose(t)
	if s, e := w.Link(); e != api.OK {
		t.Fatalf("Link: %s, %v", s, e)
	}
	return w
}

// site is a method of the family.
type site struct {
	class  string
	method int
}

// sites are all that have code.
func sites() []site {
	l := []site{{"Q", 0}, {"Q", 1}, {"B", 0}, {"C", 0}, {"C", 1}, {"C", 2}, {"E", 1}, {"E", 2}, {"X", 0}}
	for i := range 8 {
		l = append(l, site{"A", i})
	}
	return l
}

// steps holds Step against what is wanted: P901; beside an error it tells Frame{}.
func steps(t *testing.T, w *hier.World, x site, i api.Instr, f, want api.Frame, err api.Errno) {
	t.Helper()
	got, e := step.Step(w, x.class, x.method, i, f)
	if e != err || !alike(got, want) {
		t.Errorf("%v, %s %d %v of %v: %v, %v, wanted %v, %v", x, instr.Name(i.Op), i.N, i, f, got, e, want, err)
	}
}

// home is A's f: a method of a number that gives a number, with 2 Locals and a Stack of 4 places.
var home = site{"A", 0}

// done holds the Stack behind a step in home against what is wanted; refused its error.
func done(t *testing.T, w *hier.World, s, before, behind string) {
	t.Helper()
	steps(t, w, home, in(poolA, s), of("top", "LA; num", before), of("top", "LA; num", behind), api.OK)
}

func refused(t *testing.T, w *hier.World, s, before string, err api.Errno) {
	t.Helper()
	steps(t, w, home, in(poolA, s), of("top", "LA; num", before), api.Frame{}, err)
}

// known is right knowledge of every kind, of the classes of the family; selves is what a right frame's Self may be.
var (
	known  = row("num nil top [I [[I [LA; [[LA; [LObject; [LI; LObject; LThrowable; LX; LA; LB; LC; LE; LI; LJ; LK; LQ; A@0 A@7 B@7 X@7 Object@7 A! B! C! E! X!")
	selves = row("top A! B! C! E! X! LA; LB; LC; LX;")
)

// some are so many of l.
func some(r *rand.Rand, l []api.VType, n int) []api.VType {
	var got []api.VType
	for range n {
		got = append(got, l[r.Intn(len(l))])
	}
	return got
}

// someFrame is a reached frame of right knowledge.
func someFrame(r *rand.Rand, locals, stack int) api.Frame {
	return api.Frame{Self: some(r, selves, 1)[0], Locals: some(r, known, locals), Stack: some(r, known, stack)}
}

// odd is right knowledge and such as may not be.
var odd = oddKnown()

func oddKnown() []api.VType {
	l := append(slices.Clone(known), api.VType{})
	for _, kind := range []int{math.MinInt, -1, 0, 1, 2, 3, 4, 5, 6, 7, math.MaxInt} {
		for _, t := range []api.Type{{}, {Name: "A"}, {Name: "None"}, {Name: "\xff a"}, {Dims: -1}, {Dims: math.MinInt, Name: "A"}, {Dims: 1, Name: "A"}, {Dims: 9, Name: "A"}, {Dims: math.MaxInt}} {
			for _, at := range []int{math.MinInt, 0, 12} {
				l = append(l, api.VType{Kind: kind, Type: t, At: at})
			}
		}
	}
	return l
}

// oddFrame is of any knowledge, of any numbers of places, reached or not.
func oddFrame(r *rand.Rand) api.Frame {
	f := api.Frame{Self: some(r, odd, 1)[0], Locals: some(r, odd, r.Intn(4)), Stack: some(r, odd, r.Intn(6))}
	if r.Intn(8) == 0 {
		f.Self.Kind = api.VNone
	}
	return f
}

// allInstrs are the operations with each number that is an entry's of a pool that it may have, or a local's, or a place.
func allInstrs(l []api.Entry) []api.Instr {
	var all []api.Instr
	kindOf := map[string]int{"number": api.CNumber, "class": api.CClass, "type": api.CType, "field": api.CField, "method": api.CMethod}
	for op := range api.LastInst + 1 {
		n := []int{0}
		if instr.Size(op) == 2 {
			n = []int{0, 1, 2}
		}
		for kind, words := range kinds {
			if !strings.Contains(" "+strings.Join(words, " ")+" ", " "+instr.Name(op)+" ") {
				continue
			}
			n = nil
			for i, e := range l {
				if e.Kind == kindOf[kind] {
					n = append(n, i)
				}
			}
		}
		for _, x := range n {
			all = append(all, api.Instr{At: 7, Op: op, N: x, Size: instr.Size(op)})
		}
	}
	return all
}

// someInstr is one of all; sometimes any operation over that pool, or none, with any number.
func someInstr(r *rand.Rand, all []api.Instr, l []api.Entry) api.Instr {
	if r.Intn(4) > 0 {
		return all[r.Intn(len(all))]
	}
	numbers := []int{math.MinInt, -65536, -1, len(l), 65535, 65536, math.MaxInt}
	n := numbers[r.Intn(len(numbers))]
	if r.Intn(2) == 0 {
		n = r.Intn(len(l) + 1)
	}
	return api.Instr{At: r.Intn(3) * 7, Op: r.Intn(48) - 1, N: n, Size: r.Intn(4)}
}

// alike tells whether two frames are the same.
func alike(a, b api.Frame) bool {
	return a.Self == b.Self && slices.Equal(a.Locals, b.Locals) && slices.Equal(a.Stack, b.Stack)
}

// text writes a frame, so that an empty row and none are the same.
func text(f api.Frame) string {
	return fmt.Sprintf("%#v|%s|%s", f.Self, rowText(f.Locals), rowText(f.Stack))
}

func rowText(l []api.VType) string {
	var b strings.Builder
	for _, a := range l {
		fmt.Fprintf(&b, "%#v;", a)
	}
	return b.String()
}
