package step_test

import (
	"math"
	"slices"
	"strings"
	"testing"

	"keystone/api"
	"keystone/hier"
	"keystone/instr"
	"keystone/step"
)

// newWorld is class A with these methods alone, not linked: its pool may name classes that are not there.
func newWorld(t *testing.T, l []api.Entry, methods ...api.Method) *hier.World {
	t.Helper()
	w := hier.New()
	if e := w.Add(api.Module{Pool: l, Classes: []api.Class{{Name: "A", Super: "Object", Methods: methods}}}); e != api.OK {
		t.Fatalf("Add: %v", e)
	}
	return w
}

// P901, P6: a class or a method that is not there comes ahead of all else.
func TestNoMethod(t *testing.T) {
	w := world(t)
	for _, x := range []site{{"None", 0}, {"", 0}, {"a b", 0}, {"LA;", 0}, {"A", -1}, {"A", 8}, {"A", math.MinInt}, {"A", math.MaxInt}, {"B", 1}, {"I", 0}, {"I", 1}, {"K", 0}, {"E", 0}, {"E", 3}, {"Object", 0}, {"DivError", 0}, {"Throwable", 1}} {
		for _, op := range []int{api.INop, api.IPop, api.ILoad, api.INew, 46, -1} {
			for _, f := range []api.Frame{{}, of("top", "", "num"), of("top", "", "")} {
				steps(t, w, x, api.Instr{Op: op, N: 99}, f, api.Frame{}, api.ErrMember)
			}
		}
	}
}

// P901: an operation that is none comes next, whatever the frame.
func TestNoOperation(t *testing.T) {
	w := world(t)
	for _, op := range []int{math.MinInt, -1, 46, 47, 255, 256, 256 + api.IAdd, math.MaxInt} {
		for _, f := range []api.Frame{{}, of("top", "", ""), of("top", "num", "num num")} {
			for _, n := range []int{0, -1, 99} {
				steps(t, w, home, api.Instr{Op: op, N: n}, f, api.Frame{}, api.ErrOp)
			}
		}
	}
}

// P901: of a frame that is not reached each operation tells none, and no error, whatever its number.
func TestNotReached(t *testing.T) {
	w := world(t)
	for op := range api.LastInst + 1 {
		for _, n := range []int{0, 1, -1, 99999} {
			for _, f := range []api.Frame{{}, {Locals: row("num"), Stack: row("nil A@7")}, {Self: api.VType{At: 3, Type: api.Type{Name: "A"}}}} {
				for _, x := range []site{home, {"A", 1}, {"A", 3}} {
					steps(t, w, x, api.Instr{Op: op, N: n}, f, api.Frame{}, api.OK)
				}
			}
		}
	}
}

// P901: the method's kind comes ahead of what is on the Stack; the constructor's own object ahead of a Stack that is too full.
func TestKindFirst(t *testing.T) {
	w := world(t)
	steps(t, w, home, in(nil, "return"), of("top", "", "num num num num num"), api.Frame{}, api.ErrWrong)
	steps(t, w, site{"A", 3}, in(nil, "give"), of("top", "", ""), api.Frame{}, api.ErrWrong)
	steps(t, w, site{"A", 1}, in(nil, "return"), of("A!", "", "num num num num"), api.Frame{}, api.ErrInit)
	steps(t, w, site{"A", 1}, in(nil, "return"), of("LA;", "", "num num num num"), api.Frame{}, api.ErrOver)
	steps(t, w, site{"A", 1}, in(nil, "return"), of("LA;", "", "num num num"), of("LA;", "", "num num num"), api.OK)
}

// P901: entries come ahead of members, those ahead of values, those ahead of a Stack that is too full.
func TestEntriesFirst(t *testing.T) {
	w := world(t)
	full := "top top top top"
	refused(t, w, "cast I", "", api.ErrType)
	refused(t, w, "array [[[[[[[[I", "top", api.ErrType)
	refused(t, w, "init A f (I)I", "", api.ErrName)
	refused(t, w, "init A <init> ()I", "", api.ErrType)
	refused(t, w, "static A <init> ()I", "", api.ErrName)
	refused(t, w, "new I", full, api.ErrFace)
	refused(t, w, "get A none I", "", api.ErrMember)
	refused(t, w, "put A none I", "A@7", api.ErrMember)
	refused(t, w, "gets A none I", full, api.ErrMember)
	refused(t, w, "call A none ()V", "", api.ErrMember)
	refused(t, w, "static A none ()V", "", api.ErrMember)
	refused(t, w, "face J none ()V", "", api.ErrMember)
	refused(t, w, "init A <init> (I)V", "", api.ErrMember)
	refused(t, w, "add", "num num num num num nil", api.ErrWrong)
	refused(t, w, "add", "num num num num num num", api.ErrOver)
	steps(t, w, home, api.Instr{Op: api.IStore, N: 9}, of("top", "", ""), api.Frame{}, api.ErrLocal)
	steps(t, w, home, api.Instr{Op: api.ILoad, N: 9}, of("top", "", full), api.Frame{}, api.ErrLocal)
}

// P901: value by value, as they are taken: one that is wrong comes ahead of one that lacks, and of one behind it that is wrong in another way.
func TestValueByValue(t *testing.T) {
	w := world(t)
	refused(t, w, "add", "nil", api.ErrWrong)
	refused(t, w, "add", "num", api.ErrUnder)
	refused(t, w, "same 7", "num A@7", api.ErrInit)
	refused(t, w, "same 7", "A@7 num", api.ErrWrong)
	refused(t, w, "same 7", "A@7", api.ErrInit)
	refused(t, w, "put A x I", "A@7 nil", api.ErrWrong)
	refused(t, w, "put A x I", "nil", api.ErrWrong)
	refused(t, w, "put A p LA;", "num A@7", api.ErrInit)
	refused(t, w, "put A p LA;", "A@7 num", api.ErrWrong)
	refused(t, w, "numget", "A@7 nil", api.ErrWrong)
	refused(t, w, "numget", "nil", api.ErrWrong)
	refused(t, w, "numput", "A@7 num nil", api.ErrWrong)
	refused(t, w, "refget", "A@7 nil", api.ErrWrong)
	refused(t, w, "refget", "A@7 num", api.ErrInit)
	refused(t, w, "static A s (ILA;)V", "nil A@7", api.ErrInit)
	refused(t, w, "static A s (ILA;)V", "nil num", api.ErrWrong)
	refused(t, w, "static A s (ILA;)V", "num", api.ErrWrong)
	refused(t, w, "call A f (I)I", "A@7 nil", api.ErrWrong)
	refused(t, w, "call A f (I)I", "A@7 num", api.ErrInit)
	refused(t, w, "face J h (ILA;)[I", "C@7 nil A@7", api.ErrInit)
	refused(t, w, "face J h (ILA;)[I", "C@7 nil LA;", api.ErrWrong)
	refused(t, w, "init A <init> (ILB;)V", "num nil num", api.ErrWrong)
	refused(t, w, "init A <init> (ILB;)V", "num num nil", api.ErrInit)
}

// P901: refput: first whether all three are there, then the number, the array, the value.
func TestRefPutOrder(t *testing.T) {
	w := world(t)
	for _, stack := range []string{"", "num", "A@7", "num num", "A@7 A@7", "nil nil", "num nil"} {
		refused(t, w, "refput", stack, api.ErrUnder)
	}
	refused(t, w, "refput", "A@7 nil B@7", api.ErrWrong)   // the number
	refused(t, w, "refput", "A@7 num num", api.ErrInit)    // the array
	refused(t, w, "refput", "LA; num A@7", api.ErrWrong)   // the array
	refused(t, w, "refput", "[I num A@7", api.ErrWrong)    // the array
	refused(t, w, "refput", "[LA; num A@7", api.ErrInit)   // the value
	refused(t, w, "refput", "nil num A@7", api.ErrInit)    // the value
	refused(t, w, "refput", "[LA; A@7 A@7", api.ErrWrong)  // the number
	refused(t, w, "refput", "[LA; top LA;", api.ErrWrong)  // the number
	refused(t, w, "refput", "[LA; num LI;", api.ErrWrong)  // the value
	refused(t, w, "refput", "[[LA; num LA;", api.ErrWrong) // the value
}

// P901: a Stack that is full, one that has room, one that was too full: what counts is how many places there are behind the step.
func TestStackIsFull(t *testing.T) {
	w := world(t)
	for _, x := range []struct {
		at   site
		most int
	}{{home, 4}, {site{"A", 4}, 0}, {site{"C", 0}, 1}, {site{"Q", 0}, 2}, {site{"A", 1}, 3}, {site{"A", 7}, 64}} {
		for n := range x.most + 3 {
			f := of("top", "num", strings.Repeat("nil ", n))
			behind := func(m int) (api.Frame, api.Errno) {
				if m > x.most {
					return api.Frame{}, api.ErrOver
				}
				return of("top", "num", strings.Repeat("nil ", m)), api.OK
			}
			want, e := behind(n)
			steps(t, w, x.at, in(nil, "nop"), f, want, e)
			want, e = behind(n + 1)
			steps(t, w, x.at, in(nil, "nil"), f, want, e)
			if n > 0 {
				steps(t, w, x.at, in(nil, "dup"), f, want, e)
				want, e = behind(n - 1)
				steps(t, w, x.at, in(nil, "pop"), f, want, e)
				steps(t, w, x.at, in(nil, "throw"), f, want, e)
			}
			if n > 1 {
				want, e = behind(n)
				steps(t, w, x.at, in(nil, "swap"), f, want, e)
			}
		}
	}
	refused(t, w, "dup", "num num num num", api.ErrOver) // the example
	done(t, w, "dup", "num num num", "num num num num")
}

// P901: of an operation that has no entry and no local the number is not asked: where a jump goes to is told elsewhere.
func TestNumbersNotAsked(t *testing.T) {
	w := world(t)
	stacks := map[string]string{"add": "num num", "neg": "num", "pop": "nil", "dup": "nil", "swap": "nil nil", "give": "num", "throw": "nil", "print": "num", "length": "nil", "numget": "nil num", "numput": "nil num num", "refget": "nil num", "refput": "nil num nil", "zero": "num", "minus": "num", "less": "num num", "isnil": "nil", "same": "nil nil"}
	for word, stack := range stacks {
		op, _ := instr.Op(word)
		f := of("top", "", stack)
		want, e := step.Step(w, "A", 0, api.Instr{Op: op}, f)
		if e != api.OK {
			t.Errorf("%s: %v", word, e)
		}
		for _, n := range []int{math.MinInt, -1, 1, 65536, math.MaxInt} {
			steps(t, w, home, api.Instr{At: n, Op: op, N: n, Size: n}, f, want, api.OK)
		}
	}
}

// P901: what is read of the method is its own, not that of another one of its class.
func TestEachMethod(t *testing.T) {
	w := world(t)
	for _, x := range sites() {
		c, _, _ := w.Class(x.class)
		m := c.Methods[x.method]
		f := api.Frame{Self: ref("LA;"), Stack: slices.Repeat(row("nil"), m.Stack)}
		steps(t, w, x, in(nil, "nop"), f, f, api.OK)
		steps(t, w, x, in(nil, "nil"), f, api.Frame{}, api.ErrOver)
		want := api.OK
		if !m.Sig.Void {
			want = api.ErrWrong
		}
		if _, e := step.Step(w, x.class, x.method, in(nil, "return"), f); e != want {
			t.Errorf("%v: %v", x, e)
		}
	}
}
