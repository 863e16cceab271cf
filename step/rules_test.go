package step_test

import (
	"math"
	"math/rand"
	"slices"
	"testing"

	"keystone/api"
	"keystone/hier"
	"keystone/step"
)

// P1, P8: whatever is handed in, of worlds that are linked and of such as are not, every call ends; and the world tells what it told before.
func TestWhateverIsHandedIn(t *testing.T) {
	r := rand.New(rand.NewSource(1))
	names := []string{"A", "A", "A", "B", "C", "E", "I", "Q", "None", "", "Object", "\xff a"}
	numbers := []int{math.MinInt, -1, 0, 0, 0, 1, 1, 2, 3, 4, 5, 63, 64, math.MaxInt}
	all := allInstrs(poolA)
	some := func() api.Instr {
		i := someInstr(r, all, poolA)
		if r.Intn(4) == 0 {
			i = api.Instr{At: numbers[r.Intn(len(numbers))], Op: numbers[r.Intn(len(numbers))], N: numbers[r.Intn(len(numbers))], Size: numbers[r.Intn(len(numbers))]}
		}
		return i
	}
	for _, w := range []*hier.World{world(t), loose(t), hier.New()} {
		before, linked := w.Names(), w.Linked()
		for range 15000 {
			class, method, f := names[r.Intn(len(names))], numbers[r.Intn(len(numbers))], oddFrame(r)
			if got, e := step.Step(w, class, method, some(), f); e != api.OK && !alike(got, api.Frame{}) {
				t.Fatalf("%v beside %v", got, e)
			}
			step.Row(w, class, method, f)
			step.Row(w, class, method, f, some(), some(), some())
		}
		if !slices.Equal(before, w.Names()) || linked != w.Linked() {
			t.Error("the world is another one")
		}
	}
}

// mark stands in spare room, ink is written over what was told: nothing else is like them.
var mark, ink = api.VType{Kind: 77}, api.VType{Kind: 78}

// roomy is a frame that is the same as f, both of its rows pieces of one memory, with spare room behind each: the Locals' reaches over the Stack.
func roomy(f api.Frame) (api.Frame, []api.VType) {
	memory := slices.Concat(f.Locals, []api.VType{mark, mark}, f.Stack, []api.VType{mark, mark})
	n := len(f.Locals)
	return api.Frame{Self: f.Self, Locals: memory[:n], Stack: memory[n+2 : n+2+len(f.Stack)]}, memory
}

// writeOver writes over all of a row, and grows it into its spare room.
func writeOver(l []api.VType) {
	l = l[:cap(l)]
	for i := range l {
		l[i] = ink
	}
}

// P2: what is handed in is as it was, its spare room too, and the answer hangs on neither: whoever has one may write over it and grow it.
func apart(t *testing.T, tell func(f api.Frame) api.Frame, x api.Frame) {
	t.Helper()
	f, memory := roomy(x)
	before := slices.Clone(memory)
	got, again := tell(f), tell(f)
	want, stack := text(got), rowText(got.Stack)
	writeOver(got.Locals)
	if rowText(got.Stack) != stack {
		t.Fatalf("of %v: the Locals that are told share the Stack's memory", x)
	}
	writeOver(got.Stack)
	if !slices.Equal(before, memory) {
		t.Fatalf("%v became %v", x, memory)
	}
	writeOver(memory)
	if text(again) != want {
		t.Fatalf("of %v: %v, once all else was written over; wanted %s", x, again, want)
	}
}

// P2: each instruction of the family, done or refused.
func TestStepIsApart(t *testing.T) {
	w := world(t)
	r := rand.New(rand.NewSource(2))
	all := allInstrs(poolA)
	for range 8 {
		for _, i := range all {
			for _, f := range []api.Frame{someFrame(r, 3, r.Intn(4)), oddFrame(r), of("B!", "A@7 B! num", "LA; num"), of("B!", "A@7 B! A@7", "A@7 A@7"), of("B!", "B! num", "B! num B!")} {
				apart(t, func(f api.Frame) api.Frame {
					got, _ := step.Step(w, "A", 0, i, f)
					return got
				}, f)
			}
		}
	}
}

// P2: rows, of none and of several; nor is the row of instructions changed.
func TestRowIsApart(t *testing.T) {
	w := world(t)
	r := rand.New(rand.NewSource(3))
	all := allInstrs(poolA)
	for range 3000 {
		var l []api.Instr
		for range r.Intn(4) {
			l = append(l, all[r.Intn(len(all))])
		}
		had := slices.Clone(l)
		x := someFrame(r, 3, r.Intn(4))
		if r.Intn(3) == 0 {
			x = oddFrame(r)
		}
		apart(t, func(f api.Frame) api.Frame {
			got, _, _ := step.Row(w, "A", 0, f, l...)
			return got
		}, x)
		if !slices.Equal(l, had) {
			t.Fatalf("%v became %v", had, l)
		}
	}
}

// P2: no row and an empty one are the same.
func TestEmptyRows(t *testing.T) {
	w := world(t)
	for _, i := range []string{"nop", "nil", "new A", "gets A t I"} {
		a, _ := step.Step(w, "A", 0, in(poolA, i), api.Frame{Self: top})
		b, e := step.Step(w, "A", 0, in(poolA, i), api.Frame{Self: top, Locals: []api.VType{}, Stack: make([]api.VType, 0, 9)})
		if e != api.OK || !alike(a, b) {
			t.Errorf("%s: %v, %v, %v", i, a, b, e)
		}
	}
	if got, e := step.Step(w, "A", 0, in(nil, "pop"), api.Frame{Self: top, Stack: make([]api.VType, 0, 9)}); e != api.ErrUnder {
		t.Errorf("%v, %v", got, e)
	}
}

// P3, T9: the same again, whatever was done in between, in a world whose modules came in another order too.
func TestSameAgain(t *testing.T) {
	w, other := world(t), hier.New()
	l := family()
	slices.Reverse(l)
	for _, m := range l {
		slices.Reverse(m.Classes)
		other.Add(m)
	}
	if s, e := other.Link(); e != api.OK {
		t.Fatalf("Link: %s, %v", s, e)
	}
	r := rand.New(rand.NewSource(4))
	all := allInstrs(poolA)
	for range 10000 {
		i, f := all[r.Intn(len(all))], someFrame(r, 2, r.Intn(4))
		x := sites()[2+r.Intn(len(sites())-2)]
		a, e := step.Step(w, x.class, x.method, i, f)
		b, err := step.Step(other, x.class, x.method, i, f)
		c, again := step.Step(w, x.class, x.method, i, f)
		if e != err || e != again || !alike(a, b) || !alike(a, c) {
			t.Fatalf("%v, %v of %v: %v, %v; %v, %v; %v, %v", x, i, f, a, e, b, err, c, again)
		}
	}
}

// P8: knowledge that may not be is taken by the words that are asked of it: a type with dimensions is an array's, however many it has; a fresh object or a constructor's own of an array is none.
func TestOddKnowledge(t *testing.T) {
	w := world(t)
	deep := api.VType{Kind: api.VRef, Type: api.Type{Dims: 9, Name: "A"}}
	f := api.Frame{Self: top, Stack: []api.VType{deep}}
	steps(t, w, home, in(nil, "length"), f, of("top", "", "num"), api.OK)
	f.Stack = []api.VType{deep, num}
	steps(t, w, home, in(nil, "refget"), f, api.Frame{Self: top, Stack: []api.VType{ref("[[[[[[[[LA;")}}, api.OK)
	for _, v := range []api.VType{{Kind: api.VRef, Type: api.Type{Dims: -1, Name: "A"}}, {Kind: api.VRef}, {Kind: 9, Type: api.Type{Dims: 1}}, {}} {
		steps(t, w, home, in(nil, "length"), api.Frame{Self: top, Stack: []api.VType{v}}, api.Frame{}, api.ErrWrong)
	}
	for _, v := range []api.VType{{Kind: api.VFresh, Type: api.Type{Dims: 1, Name: "A"}}, {Kind: api.VSelf, Type: api.Type{Dims: 1, Name: "A"}}, {Kind: api.VSelf, Type: api.Type{Name: "None"}}, {Kind: api.VSelf}} {
		steps(t, w, home, in(poolA, "init A <init> ()V"), api.Frame{Self: top, Stack: []api.VType{v}}, api.Frame{}, api.ErrInit)
	}
}

// The chapter's examples.
func TestExamples(t *testing.T) {
	w := world(t)
	done(t, w, "put A x I", "LA; num", "")
	done(t, w, "put A x I", "nil num", "")
	refused(t, w, "put A x I", "A@7 num", api.ErrInit)
	done(t, w, "refget", "nil num", "nil")
	refused(t, w, "dup", "nil nil nil nil", api.ErrOver)
	refused(t, w, "throw", "LObject;", api.ErrWrong)
	rows(t, w, home, "7: new A, dup, init A <init> ()V", of("top", "", ""), of("top", "", "LA;"), 3, api.OK)
}
