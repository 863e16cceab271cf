package step_test

import (
	"math"
	"slices"
	"strings"
	"testing"

	"keystone/api"
	"keystone/instr"
	"keystone/step"
)

// P901: the operations that move what is there, whatever it is.
func TestMoves(t *testing.T) {
	w := world(t)
	for _, v := range []string{"num", "nil", "top", "LA;", "[[I", "A@7", "A!"} {
		done(t, w, "nop", v, v)
		done(t, w, "jump 9", v, v)
		done(t, w, "pop", "num "+v, "num")
		done(t, w, "dup", "num "+v, "num "+v+" "+v)
		done(t, w, "swap", "LX; "+v+" LB;", "LX; LB; "+v)
		done(t, w, "swap", v+" num", "num "+v)
	}
	done(t, w, "nop", "", "")
	done(t, w, "jump 65535", "", "")
	for _, s := range []string{"pop", "dup", "swap", "store 0"} {
		refused(t, w, s, "", api.ErrUnder)
	}
	refused(t, w, "swap", "num", api.ErrUnder)
}

// P901: what is put, though nothing is taken.
func TestPuts(t *testing.T) {
	w := world(t)
	done(t, w, "number 5", "", "num")
	done(t, w, "number -1", "LA;", "LA; num")
	done(t, w, "nil", "", "nil")
	done(t, w, "nil", "top", "top nil")
	for _, s := range []string{"number 5", "nil", "load 0", "new A", "gets A t I"} {
		refused(t, w, s, "num num num num", api.ErrOver)
	}
}

// P901: locals, by the frame's own number of them.
func TestLocals(t *testing.T) {
	w := world(t)
	for _, v := range []string{"num", "nil", "top", "LC;", "[LA;", "B@3", "B!"} {
		f := of("top", "num "+v+" LX;", "nil")
		steps(t, w, home, in(poolA, "load 1"), f, of("top", "num "+v+" LX;", "nil "+v), api.OK)
		f = of("top", "num nil LX;", "nil "+v)
		steps(t, w, home, in(poolA, "store 1"), f, of("top", "num "+v+" LX;", "nil"), api.OK)
		steps(t, w, home, in(poolA, "store 2"), f, of("top", "num nil "+v, "nil"), api.OK)
	}
	for _, n := range []int{math.MinInt, -1, 2, 3, 255, 256, math.MaxInt} {
		for _, op := range []int{api.ILoad, api.IStore} {
			steps(t, w, home, api.Instr{Op: op, N: n}, of("top", "LA; num", "num"), api.Frame{}, api.ErrLocal)
			steps(t, w, home, api.Instr{Op: op, N: n}, of("top", "LA; num", ""), api.Frame{}, api.ErrLocal)
		}
	}
	steps(t, w, home, in(poolA, "load 0"), of("top", "", ""), api.Frame{}, api.ErrLocal)
	steps(t, w, home, in(poolA, "store 0"), of("top", "num", ""), api.Frame{}, api.ErrUnder)
	steps(t, w, home, in(poolA, "load 63"), api.Frame{Self: top, Locals: slices.Repeat(row("nil"), 64)}, api.Frame{Self: top, Locals: slices.Repeat(row("nil"), 64), Stack: row("nil")}, api.OK)
}

// notNumbers, notObjects are what may not stand where a number or an object is wanted, with its error.
var notNumbers = map[string]api.Errno{"nil": api.ErrWrong, "top": api.ErrWrong, "LA;": api.ErrWrong, "[I": api.ErrWrong, "A@7": api.ErrWrong, "A!": api.ErrWrong}

var notObjects = map[string]api.Errno{"num": api.ErrWrong, "top": api.ErrWrong, "A@7": api.ErrInit, "A!": api.ErrInit}

// P901: numbers.
func TestNumbers(t *testing.T) {
	w := world(t)
	for _, s := range strings.Fields("add sub mul div rem and or xor shl shr") {
		done(t, w, s, "num num", "num")
		done(t, w, s, "LA; num num", "LA; num")
		refused(t, w, s, "", api.ErrUnder)
		refused(t, w, s, "num", api.ErrUnder)
		for v, e := range notNumbers {
			refused(t, w, s, "num "+v, e)
			refused(t, w, s, v+" num", e)
			refused(t, w, s, v, e)
		}
	}
	done(t, w, "less 7", "num num", "")
	done(t, w, "less 7", "nil num num", "nil")
	refused(t, w, "less 7", "num", api.ErrUnder)
	done(t, w, "neg", "nil num", "nil num")
	for v, e := range notNumbers {
		refused(t, w, "less 7", v+" num", e)
		refused(t, w, "less 7", "num "+v, e)
		refused(t, w, "neg", "num "+v, e)
	}
	refused(t, w, "neg", "", api.ErrUnder)
	for _, s := range []string{"zero 7", "minus 7", "print"} {
		done(t, w, s, "num", "")
		done(t, w, s, "nil num", "nil")
		refused(t, w, s, "", api.ErrUnder)
		for v, e := range notNumbers {
			refused(t, w, s, "num "+v, e)
		}
	}
}

// P901: objects, of which nothing more is asked.
func TestObjects(t *testing.T) {
	w := world(t)
	for _, v := range []string{"nil", "LObject;", "LA;", "LI;", "[I", "[[LA;"} {
		done(t, w, "isnil 7", "num "+v, "num")
		done(t, w, "same 7", "num "+v+" LC;", "num")
		done(t, w, "same 7", "num LC; "+v, "num")
		done(t, w, "cast LA;", "num "+v, "num LA;")
		done(t, w, "cast [LA;", v, "[LA;")
		done(t, w, "cast LI;", v, "LI;")
		done(t, w, "cast [[[[[[[[I", v, "[[[[[[[[I")
		done(t, w, "is LA;", "num "+v, "num num")
		done(t, w, "is [I", v, "num")
	}
	for _, s := range []string{"isnil 7", "same 7", "cast LA;", "is LA;"} {
		refused(t, w, s, "", api.ErrUnder)
		for v, e := range notObjects {
			refused(t, w, s, "LA; "+v, e)
		}
	}
	refused(t, w, "same 7", "LA;", api.ErrUnder)
	for v, e := range notObjects {
		refused(t, w, "same 7", v+" LA;", e)
	}
	for _, s := range []string{"cast I", "is I"} { // a number's type
		refused(t, w, s, "LA;", api.ErrType)
		refused(t, w, s, "", api.ErrType)
	}
}

// P901: `new`: a class that is neither abstract nor an interface; what was made at that place before is not known any more.
func TestNew(t *testing.T) {
	w := world(t)
	done(t, w, "7: new A", "", "A@7")
	done(t, w, "new A", "num", "num A@0")
	done(t, w, "1023: new Object", "num", "num Object@1023")
	done(t, w, "7: new DivError", "", "DivError@7")
	for _, s := range []string{"new I", "new E", "new J"} {
		refused(t, w, s, "", api.ErrFace)
		refused(t, w, s, "num num num num", api.ErrFace)
	}
	f := of("A!", "A@7 A@3 B@7 LA; A!", "A@7 num A@7")
	steps(t, w, home, in(poolA, "7: new A"), f, of("A!", "top A@3 B@7 LA; A!", "top num top A@7"), api.OK)
	f.Stack = row("A@7 num A@7 A@7")
	steps(t, w, home, in(poolA, "7: new A"), f, api.Frame{}, api.ErrOver)
	// At its own place a fresh object is made again, and again.
	got, n, e := step.Row(w, "A", 0, of("top", "", ""), in(poolA, "7: new A"), in(poolA, "7: new A"), in(poolA, "9: new A"), in(poolA, "7: new A"))
	if want := of("top", "", "top top A@9 A@7"); n != 4 || e != api.OK || !alike(got, want) {
		t.Errorf("%v, %d, %v", got, n, e)
	}
}

// P8: a class that is not there: only a world that is not linked has such entries.
func TestNewOfNone(t *testing.T) {
	w := newWorld(t, poolOf("class A", "class None"), method(api.FStatic, "s", "()V", 1, 0))
	if _, e := step.Step(w, "A", 0, in(poolOf("class A", "class None"), "new None"), of("top", "", "")); e != api.ErrMember {
		t.Errorf("%v", e)
	}
}

// P901: fields of objects, found in the class or above it.
func TestFields(t *testing.T) {
	w := world(t)
	for _, v := range []string{"LA;", "LB;", "LC;", "LQ;", "nil"} {
		done(t, w, "get A x I", "num "+v, "num num")
		done(t, w, "get A p LA;", v, "LA;")
		done(t, w, "get A n [I", v, "[I")
		done(t, w, "get A q LI;", v, "LI;")
		done(t, w, "put A x I", "num "+v+" num", "num")
		for _, x := range []string{"LA;", "LB;", "nil"} {
			done(t, w, "put A p LA;", v+" "+x, "")
			done(t, w, "put A q LI;", v+" "+x, "")
		}
		done(t, w, "put A q LI;", v+" LJ;", "")
		done(t, w, "put A n [I", v+" [I", "")
	}
	done(t, w, "get B p LA;", "LB;", "LA;") // A has it
	refused(t, w, "get B p LA;", "LA;", api.ErrWrong)
	done(t, w, "put B p LA;", "LC; LA;", "")
	done(t, w, "get C y LB;", "LC;", "LB;")
	for v, e := range map[string]api.Errno{"num": api.ErrWrong, "top": api.ErrWrong, "LObject;": api.ErrWrong, "LI;": api.ErrWrong, "[LA;": api.ErrWrong, "A@7": api.ErrInit, "A!": api.ErrInit} {
		refused(t, w, "get A x I", v, e)
		refused(t, w, "put A x I", v+" num", e)
	}
	for v, e := range map[string]api.Errno{"num": api.ErrWrong, "top": api.ErrWrong, "LObject;": api.ErrWrong, "LI;": api.ErrWrong, "A@7": api.ErrInit, "A!": api.ErrInit} {
		refused(t, w, "put A p LA;", "LA; "+v, e)
	}
	refused(t, w, "put A x I", "LA; nil", api.ErrWrong)
	refused(t, w, "put A n [I", "LA; [[I", api.ErrWrong)
	refused(t, w, "get A x I", "", api.ErrUnder)
	refused(t, w, "put A x I", "", api.ErrUnder)
	refused(t, w, "put A x I", "num", api.ErrUnder)
	for _, s := range []string{"A s LA;", "A t I", "A x LA;", "A none I", "B x I", "B t I", "Object x I", "I x I"} {
		refused(t, w, "get "+s, "LA;", api.ErrMember)
		refused(t, w, "put "+s, "LA; num", api.ErrMember)
	}
}

// P901: static fields.
func TestStaticFields(t *testing.T) {
	w := world(t)
	done(t, w, "gets A s LA;", "", "LA;")
	done(t, w, "gets A t I", "nil", "nil num")
	done(t, w, "gets B t I", "", "num") // A has it
	done(t, w, "gets B x I", "", "num")
	for _, v := range []string{"nil", "LA;", "LB;", "LQ;"} {
		done(t, w, "puts A s LA;", "num "+v, "num")
	}
	done(t, w, "puts A t I", "num", "")
	done(t, w, "puts B t I", "num num", "num")
	for v, e := range map[string]api.Errno{"num": api.ErrWrong, "top": api.ErrWrong, "LObject;": api.ErrWrong, "LI;": api.ErrWrong, "A@7": api.ErrInit, "A!": api.ErrInit} {
		refused(t, w, "puts A s LA;", v, e)
	}
	refused(t, w, "puts A t I", "nil", api.ErrWrong)
	refused(t, w, "puts A t I", "", api.ErrUnder)
	for _, s := range []string{"A x I", "A p LA;", "A none I", "C y LB;", "Object x I"} {
		refused(t, w, "gets "+s, "", api.ErrMember)
		refused(t, w, "puts "+s, "", api.ErrMember)
	}
}

// P901: arrays are made of their elements' types.
func TestArrays(t *testing.T) {
	w := world(t)
	for element, array := range map[string]string{"I": "[I", "LA;": "[LA;", "LI;": "[LI;", "[I": "[[I", "[LA;": "[[LA;", "[[[[[[[I": "[[[[[[[[I"} {
		done(t, w, "array "+element, "nil num", "nil "+array)
		refused(t, w, "array "+element, "", api.ErrUnder)
		for v, e := range notNumbers {
			refused(t, w, "array "+element, v, e)
		}
	}
	refused(t, w, "array [[[[[[[[I", "num", api.ErrType)
	refused(t, w, "array [[[[[[[[LA;", "", api.ErrType)
	for _, v := range []string{"nil", "[I", "[[I", "[LA;", "[[[[[[[[LA;"} {
		done(t, w, "length", "nil "+v, "nil num")
	}
	refused(t, w, "length", "", api.ErrUnder)
	for v, e := range map[string]api.Errno{"num": api.ErrWrong, "top": api.ErrWrong, "LObject;": api.ErrWrong, "LA;": api.ErrWrong, "A@7": api.ErrInit, "A!": api.ErrInit} {
		refused(t, w, "length", v, e)
		refused(t, w, "numget", v+" num", e)
		refused(t, w, "numput", v+" num num", e)
		refused(t, w, "refget", v+" num", e)
		refused(t, w, "refput", v+" num nil", e)
	}
}

// P901: elements that are numbers.
func TestNumberElements(t *testing.T) {
	w := world(t)
	for _, v := range []string{"[I", "nil"} {
		done(t, w, "numget", "nil "+v+" num", "nil num")
		done(t, w, "numput", "nil "+v+" num num", "nil")
	}
	for _, v := range []string{"[[I", "[LA;"} {
		refused(t, w, "numget", v+" num", api.ErrWrong)
		refused(t, w, "numput", v+" num num", api.ErrWrong)
	}
	for v, e := range notNumbers {
		refused(t, w, "numget", "[I "+v, e)
		refused(t, w, "numput", "[I "+v+" num", e)
		refused(t, w, "numput", "[I num "+v, e)
	}
	for _, s := range []string{"", "num"} {
		refused(t, w, "numget", s, api.ErrUnder)
	}
	for _, s := range []string{"", "num", "num num"} {
		refused(t, w, "numput", s, api.ErrUnder)
	}
}

// P901: elements that are objects.
func TestObjectElements(t *testing.T) {
	w := world(t)
	for array, element := range map[string]string{"[LA;": "LA;", "[LI;": "LI;", "[[I": "[I", "[[LA;": "[LA;", "[LObject;": "LObject;", "nil": "nil"} {
		done(t, w, "refget", "num "+array+" num", "num "+element)
		done(t, w, "refput", "num "+array+" num nil", "num")
		done(t, w, "refput", array+" num "+element, "")
	}
	done(t, w, "refput", "[LA; num LC;", "")
	done(t, w, "refput", "[LI; num LC;", "")
	done(t, w, "refput", "[LObject; num [I", "")
	for _, v := range []string{"LObject;", "LK;", "[I", "[[LA;"} {
		done(t, w, "refput", "nil num "+v, "")
		refused(t, w, "refput", "[LA; num "+v, api.ErrWrong)
	}
	refused(t, w, "refget", "[I num", api.ErrWrong)
	refused(t, w, "refput", "[I num nil", api.ErrWrong)
	refused(t, w, "refput", "[I num num", api.ErrWrong)
	refused(t, w, "refput", "[[I num [[I", api.ErrWrong)
	for v, e := range notObjects {
		refused(t, w, "refput", "nil num "+v, e)
		refused(t, w, "refput", "[LA; num "+v, e)
		refused(t, w, "refput", "[LObject; num "+v, e)
	}
	for v, e := range notNumbers {
		refused(t, w, "refget", "[LA; "+v, e)
		refused(t, w, "refput", "[LA; "+v+" nil", e)
	}
	for _, s := range []string{"", "num"} {
		refused(t, w, "refget", s, api.ErrUnder)
	}
}

// P901: calls by a class and by an interface.
func TestCalls(t *testing.T) {
	w := world(t)
	for _, v := range []string{"LA;", "LB;", "LQ;", "nil"} {
		done(t, w, "call A f (I)I", "nil "+v+" num", "nil num")
		done(t, w, "call A g ()V", "nil "+v, "nil")
		done(t, w, "call A o ()LA;", v, "LA;")
	}
	done(t, w, "call B f (I)I", "LB; num", "num") // A has it
	refused(t, w, "call B f (I)I", "LA; num", api.ErrWrong)
	done(t, w, "call E q ()I", "LE;", "num") // it is abstract
	done(t, w, "call C h (ILA;)[I", "LC; num LB;", "[I")
	done(t, w, "call C m (LI;[ILObject;)LK;", "LC; LA; [I [[I", "LK;")
	done(t, w, "call C m (LI;[ILObject;)LK;", "LC; LJ; nil LK;", "LK;")
	refused(t, w, "call C m (LI;[ILObject;)LK;", "LC; LK; [I LA;", api.ErrWrong)
	refused(t, w, "call C m (LI;[ILObject;)LK;", "LC; LA; [[I LA;", api.ErrWrong)
	refused(t, w, "call C m (LI;[ILObject;)LK;", "LB; LA; [I LA;", api.ErrWrong)
	refused(t, w, "call C m (LI;[ILObject;)LK;", "LC; LA; [I A@7", api.ErrInit)
	refused(t, w, "call C m (LI;[ILObject;)LK;", "LA; [I LA;", api.ErrUnder)
	for _, v := range []string{"LA;", "LI;", "LJ;", "LC;", "nil"} {
		done(t, w, "face I g ()V", "num "+v, "num")
	}
	for _, v := range []string{"LJ;", "LC;", "nil"} {
		done(t, w, "face J g ()V", v, "") // I has it
		done(t, w, "face J h (ILA;)[I", v+" num LA;", "[I")
	}
	for v, e := range map[string]api.Errno{"LObject;": api.ErrWrong, "LI;": api.ErrWrong, "LA;": api.ErrWrong, "[LC;": api.ErrWrong, "num": api.ErrWrong, "top": api.ErrWrong, "C@7": api.ErrInit, "C!": api.ErrInit} {
		refused(t, w, "face J g ()V", v, e)
		refused(t, w, "call C g ()V", v, e)
	}
	for _, s := range []string{"call A f ()I", "call A none ()V", "call A s (ILA;)V", "call A a ()[LA;", "call I g ()V", "call Object g ()V", "face J none ()V", "face I f (I)I", "face I s (ILA;)V", "face A g ()V", "face C h (ILA;)[I"} {
		refused(t, w, s, "LC; num", api.ErrMember)
	}
	refused(t, w, "call A <init> ()V", "LA;", api.ErrName)
	refused(t, w, "face I <init> ()V", "LA;", api.ErrName)
	refused(t, w, "call A g ()V", "", api.ErrUnder)
	refused(t, w, "call A f (I)I", "num", api.ErrUnder)
}

// P901: static calls.
func TestStaticCalls(t *testing.T) {
	w := world(t)
	done(t, w, "static A s (ILA;)V", "nil num LB;", "nil")
	done(t, w, "static B s (ILA;)V", "num nil", "") // A has it
	done(t, w, "static A a ()[LA;", "", "[LA;")
	done(t, w, "static B a ()[LA;", "num num num", "num num num [LA;")
	refused(t, w, "static B a ()[LA;", "num num num num", api.ErrOver)
	refused(t, w, "static A s (ILA;)V", "LB; num", api.ErrWrong)
	refused(t, w, "static A s (ILA;)V", "num A@7", api.ErrInit)
	refused(t, w, "static A s (ILA;)V", "LA;", api.ErrUnder)
	refused(t, w, "static A s (ILA;)V", "", api.ErrUnder)
	for _, s := range []string{"static A f (I)I", "static A g ()V", "static A none ()V", "static I s (ILA;)V"} {
		refused(t, w, s, "num", api.ErrMember)
	}
	refused(t, w, "static A <init> ()V", "num", api.ErrName)
}

// P901: constructors of fresh objects: just of their own class.
func TestInit(t *testing.T) {
	w := world(t)
	done(t, w, "init A <init> ()V", "num A@7", "num")
	done(t, w, "init A <init> ()V", "A@7 A@9 A@7", "LA; A@9")
	done(t, w, "init A <init> (ILB;)V", "A@7 A@7 num LC;", "LA;")
	done(t, w, "init X <init> ()V", "X@7", "")
	done(t, w, "init Object <init> ()V", "Object@7 Object@7", "LObject;")
	done(t, w, "init DivError <init> ()V", "DivError@0", "")
	f := of("A!", "A@7 A@3 B@7 top A!", "A@7 num A@7")
	steps(t, w, home, in(poolA, "init A <init> ()V"), f, of("A!", "LA; A@3 B@7 top A!", "LA; num"), api.OK)
	for _, v := range []string{"num", "nil", "top", "LA;", "LB;", "[LA;", "B@7", "Object@7", "C@7"} {
		refused(t, w, "init A <init> ()V", v, api.ErrInit)
	}
	refused(t, w, "init A <init> (ILB;)V", "A@7 num LA;", api.ErrWrong)
	refused(t, w, "init A <init> (ILB;)V", "A@7 nil nil", api.ErrWrong)
	refused(t, w, "init A <init> (ILB;)V", "A@7 num B@7", api.ErrInit)
	refused(t, w, "init A <init> (ILB;)V", "A@7 B@7", api.ErrInit)
	refused(t, w, "init A <init> (ILB;)V", "num nil", api.ErrUnder)
	refused(t, w, "init A <init> (ILB;)V", "nil", api.ErrUnder)
	refused(t, w, "init A <init> ()V", "", api.ErrUnder)
	refused(t, w, "init A <init> (I)V", "A@7 num", api.ErrMember)
	refused(t, w, "init C <init> ()V", "C@7", api.ErrMember) // B has one
	refused(t, w, "init I <init> ()V", "A@7", api.ErrMember)
	refused(t, w, "init A <init> ()I", "A@7", api.ErrType)
	refused(t, w, "init A f (I)I", "A@7 num", api.ErrName)
	refused(t, w, "init A g ()V", "A@7", api.ErrName)
}

// P901: a constructor's own object: by its own class's constructor or its Super's, and it is of its own class then.
func TestInitOfSelf(t *testing.T) {
	w := world(t)
	for _, s := range []string{"init B <init> ()V", "init A <init> ()V"} {
		f := of("B!", "B! A! num B@0", "B! A@7 B!")
		steps(t, w, site{"B", 0}, in(poolA, s), f, of("LB;", "LB; A! num B@0", "LB; A@7"), api.OK)
	}
	steps(t, w, site{"A", 1}, in(poolA, "init Object <init> ()V"), of("A!", "A!", "A!"), of("LA;", "LA;", ""), api.OK)
	steps(t, w, site{"A", 1}, in(poolA, "init A <init> (ILB;)V"), of("A!", "A!", "A! num nil"), of("LA;", "LA;", ""), api.OK)
	steps(t, w, site{"X", 0}, in(poolA, "init Throwable <init> ()V"), of("X!", "X!", "X!"), of("LX;", "LX;", ""), api.OK)
	steps(t, w, site{"E", 1}, in(poolA, "init Object <init> ()V"), of("E!", "E!", "E!"), of("LE;", "LE;", ""), api.OK)
	for _, s := range []string{"init A <init> ()V", "init Object <init> ()V", "init X <init> ()V"} { // two above, three above, beside
		steps(t, w, site{"C", 1}, in(poolA, s), of("C!", "C! num", "C!"), api.Frame{}, api.ErrInit)
	}
	steps(t, w, site{"B", 0}, in(poolA, "init B <init> ()V"), of("B!", "B!", "A!"), api.Frame{}, api.ErrInit) // below
	steps(t, w, site{"X", 0}, in(poolA, "init Object <init> ()V"), of("X!", "X!", "X!"), api.Frame{}, api.ErrInit)
	// Once it is initialised, it can't be again.
	steps(t, w, site{"B", 0}, in(poolA, "init A <init> ()V"), of("LB;", "LB;", "LB;"), api.Frame{}, api.ErrInit)
	// Self is another one: it is left.
	steps(t, w, site{"B", 0}, in(poolA, "init A <init> ()V"), of("B!", "B!", "A!"), of("B!", "B!", ""), api.OK)
}

// P901: return, beside give, of methods of each kind; a constructor's own object must be initialised.
func TestReturnAndGive(t *testing.T) {
	w := world(t)
	void, number, object, array, face := site{"A", 3}, home, site{"A", 5}, site{"A", 6}, site{"A", 7}
	give, leave := in(nil, "give"), in(nil, "return")
	for _, stack := range []string{"", "num", "A@7 top"} {
		steps(t, w, void, leave, of("top", "num LA;", stack), of("top", "num LA;", stack), api.OK)
		steps(t, w, void, give, of("top", "num LA;", stack), api.Frame{}, api.ErrWrong)
	}
	for _, x := range []site{number, object, array, face} {
		for _, stack := range []string{"", "num", "nil"} {
			steps(t, w, x, leave, of("top", "", stack), api.Frame{}, api.ErrWrong)
		}
		steps(t, w, x, give, of("top", "", ""), api.Frame{}, api.ErrUnder)
		steps(t, w, x, give, of("top", "", "top"), api.Frame{}, api.ErrWrong)
	}
	steps(t, w, number, give, of("top", "", "LA; num"), of("top", "", "LA;"), api.OK)
	steps(t, w, number, give, of("top", "", "nil"), api.Frame{}, api.ErrWrong)
	for _, x := range []struct {
		at        site
		good, bad string
	}{{object, "LA; LB; LC; nil", "LObject; LI; num [LA;"}, {array, "[LA; nil", "[LB; [I LA; num LObject;"}, {face, "LI; LJ; LA; LC; nil", "LObject; LK; LE; num"}} {
		for _, v := range strings.Fields(x.good) {
			steps(t, w, x.at, give, of("top", "num", v), of("top", "num", ""), api.OK)
		}
		for _, v := range strings.Fields(x.bad) {
			steps(t, w, x.at, give, of("top", "num", v), api.Frame{}, api.ErrWrong)
		}
		steps(t, w, x.at, give, of("top", "num", "A@7"), api.Frame{}, api.ErrInit)
		steps(t, w, x.at, give, of("A!", "num", "A!"), api.Frame{}, api.ErrInit)
	}
	for _, own := range []string{"A!", "top", "B!"} {
		steps(t, w, site{"A", 1}, leave, of(own, "LA;", "num"), api.Frame{}, api.ErrInit)
		steps(t, w, void, leave, of(own, "LA;", "num"), of(own, "LA;", "num"), api.OK) // no constructor
	}
	steps(t, w, site{"A", 1}, leave, of("LA;", "LA;", "num"), of("LA;", "LA;", "num"), api.OK)
	steps(t, w, site{"A", 1}, give, of("LA;", "LA;", "LA;"), api.Frame{}, api.ErrWrong)
}

// P901: what may be thrown.
func TestThrow(t *testing.T) {
	w := world(t)
	for _, v := range []string{"LThrowable;", "LDivError;", "LHeapError;", "LX;", "nil"} {
		done(t, w, "throw", "num "+v, "num")
	}
	for v, e := range map[string]api.Errno{"LObject;": api.ErrWrong, "LA;": api.ErrWrong, "LI;": api.ErrWrong, "[LX;": api.ErrWrong, "num": api.ErrWrong, "top": api.ErrWrong, "X@7": api.ErrInit, "X!": api.ErrInit} {
		refused(t, w, "throw", v, e)
	}
	refused(t, w, "throw", "", api.ErrUnder)
}

// P901: the numbers of entries that are none, and entries of other kinds.
func TestEntries(t *testing.T) {
	w := world(t)
	number, class, kind, fld, mth := in(poolA, "number 5").N, in(poolA, "new A").N, in(poolA, "cast LA;").N, in(poolA, "get A x I").N, in(poolA, "call A f (I)I").N
	for words, right := range map[string]int{"number": number, "new": class, "array cast is": kind, "get put gets puts": fld, "call face static init": mth} {
		for _, word := range strings.Fields(words) {
			op, _ := instr.Op(word)
			wrong := []int{math.MinInt, -65536, -1, len(poolA), len(poolA) + 1, 4096, 65535, 65536, 65536 + right, 1<<32 + right, math.MaxInt}
			for _, n := range []int{number, class, kind, fld, mth} {
				if n != right {
					wrong = append(wrong, n)
				}
			}
			for _, n := range wrong {
				steps(t, w, home, api.Instr{Op: op, N: n}, of("top", "", ""), api.Frame{}, api.ErrEntry)
			}
		}
	}
}

// P901: entries are those of the pool of the class's module, whatever those of other modules say.
func TestPools(t *testing.T) {
	w := world(t)
	q := site{"Q", 0}
	steps(t, w, q, in(poolQ, "7: new Q"), of("top", "", ""), of("top", "", "Q@7"), api.OK)
	steps(t, w, q, in(poolQ, "get A x I"), of("top", "", "LQ;"), of("top", "", "num"), api.OK)
	steps(t, w, q, in(poolQ, "cast [I"), of("top", "", "LQ;"), of("top", "", "[I"), api.OK)
	steps(t, w, q, api.Instr{Op: api.INumber, N: len(poolQ)}, of("top", "", ""), api.Frame{}, api.ErrEntry)
	steps(t, w, q, in(poolA, "number -1"), of("top", "", ""), api.Frame{}, api.ErrEntry)
	steps(t, w, site{"Q", 1}, in(poolQ, "init A <init> ()V"), of("Q!", "Q!", "Q!"), of("LQ;", "LQ;", ""), api.OK)
	// Behind the step the Stack has two places at most there.
	steps(t, w, q, in(poolQ, "number 7"), of("top", "", "nil nil"), api.Frame{}, api.ErrOver)
}
