package slow_test

import (
	"fmt"
	"strings"
	"testing"

	"keystone/api"
	"keystone/slow"
)

// P1402: each of the six where nothing takes it: the result names it, and nothing is beside.
func TestTheSix(t *testing.T) {
	for code, want := range map[string]string{
		"nil\nget A x I\nprint": "thrown NilError :2",
		"nil\nthrow":            "thrown NilError :2",
		"number 1\narray I\nnumber 1\nnumget\nprint":    "thrown BoundsError :4",
		"number -1\narray I\npop":                       "thrown BoundsError :2",
		made("A") + "cast LB;\npop":                     "thrown CastError :7",
		"number 1\nnumber 0\nrem\nprint":                "thrown DivError :3",
		"static M f ()V":                                "thrown DepthError :16",
		"again: number 65536\narray I\npop\njump again": "thrown HeapError :126",
	} {
		tells(t, "()V", code+"\nreturn", "", want)
	}
}

// caught are handlers of all sorts around a `throw` of what is handed in; what took it is told by a number, and it by its class.
const caught = "class M Object\n" +
	"does static one (LThrowable;)I\nfrom: load 0\nthrow\nto: nop\nat: pop\nnumber 1\ngive\ncatch from to at Throwable\n" +
	"does static object (LThrowable;)I\nfrom: load 0\nthrow\nto: nop\nat: pop\nnumber 1\ngive\ncatch from to at Object\n" +
	"does static x (LThrowable;)I\nfrom: load 0\nthrow\nto: nop\nat: pop\nnumber 1\ngive\ncatch from to at X\n" +
	"does static face (LThrowable;)I\nfrom: load 0\nthrow\nto: nop\nat: pop\nnumber 1\ngive\ncatch from to at I\n" +
	"does static first (LThrowable;)I\nfrom: load 0\nthrow\nto: nop\na: pop\nnumber 1\ngive\nb: pop\nnumber 2\ngive\nc: pop\nnumber 3\ngive\nd: pop\nnumber 4\ngive\n" +
	"catch from to a Y\ncatch from to b X\ncatch from to c Y\ncatch from to c DivError\ncatch from to d Throwable\ncatch from to a Throwable\n" +
	"does static where (LThrowable;)I\nhere: load 0\nthere: throw\nto: nop\na: pop\nnumber 1\ngive\nb: pop\nnumber 2\ngive\ncatch here there a Throwable\ncatch there to b Throwable\ncatch here to a Throwable\n" +
	"does static ahead (LThrowable;)I\nfrom: load 0\nto: throw\nat: pop\nnumber 1\ngive\ncatch from to at Throwable\n" +
	"does static behind (LThrowable;)I\nload 0\nthrow\nfrom: nop\nto: nop\nat: pop\nnumber 1\ngive\ncatch from to at Throwable\n" +
	"does static itself (LThrowable;)LThrowable;\nfrom: load 0\nthrow\nto: nop\nat: give\ncatch from to at Throwable\n" +
	"does static stack (LThrowable;)I\nfrom: number 1\nnumber 2\nload 0\nthrow\nto: nop\nat: pop\nnumber 3\ngive\ncatch from to at Throwable\n" +
	"does static height (LThrowable;)I 2 1\nfrom: number 1\nload 0\nthrow\nto: nop\nat: number 4\nswap\npop\ngive\ncatch from to at Throwable\n" +
	"does static locals (LThrowable;)I\nnumber 7\nstore 1\nfrom: number 8\nstore 2\nload 0\nthrow\nto: nop\nat: pop\nload 1\nload 2\nadd\ngive\ncatch from to at Throwable\n" +
	"does static again (LThrowable;)I\nfrom: load 0\nthrow\nto: nop\nat: throw\nend: nop\nat2: pop\nnumber 5\ngive\ncatch from to at Throwable\ncatch at end at2 Throwable\n" +
	"does static out (LThrowable;)I\nfrom: load 0\nthrow\nto: nop\nat: throw\ncatch from to at Throwable\n" +
	"does static thrower (LThrowable;)I\nload 0\nthrow\n" +
	"does static below (LThrowable;)I\nnumber 9\nfrom: load 0\nstatic M thrower (LThrowable;)I\nto: give\nat: pop\nnumber 6\ngive\ncatch from to at X\n" +
	"does static lower (LThrowable;)I\nfrom: load 0\nstatic M below (LThrowable;)I\nto: give\nat: pop\nnumber 7\ngive\ncatch from to at DivError\n" +
	"does static call (LThrowable;)I\nload 0\nhere: static M thrower (LThrowable;)I\nthere: give\na: pop\nnumber 1\ngive\nb: pop\nnumber 2\ngive\ncatch there a a Throwable\ncatch here there b Throwable\n" +
	"does static loop (LThrowable;)I\nfrom: load 0\nto: throw\nend: nop\ncatch from end from Throwable\n" +
	"class N Object\ndoes static x ()LX;\n" + "new X\ndup\ninit X <init> ()V\ngive\ndoes static y ()LY;\nnew Y\ndup\ninit Y <init> ()V\ngive\n"

// handed is such a machine; 7 is an X, 8 a Y.
func handed(t testing.TB) *slow.Machine {
	t.Helper()
	m := begin(t, family, caught)
	runs(t, m, "N x ()LX;", "", "ok @7 :7")
	runs(t, m, "N y ()LY;", "", "ok @8 :10")
	return m
}

// P1402: what takes what: the first handler that fits, by class and by place; in the frame, and in those below.
func TestHandlers(t *testing.T) {
	m := handed(t)
	for name, wants := range map[string]string{
		// of DivError, X, Y, nil: a NilError
		"one":     "ok 1 :5, ok 1 :5, ok 1 :5, ok 1 :5",
		"object":  "ok 1 :5, ok 1 :5, ok 1 :5, ok 1 :5",
		"x":       "thrown DivError :2, ok 1 :5, ok 1 :5, thrown NilError :2",
		"face":    "thrown DivError :2, thrown X :2, thrown Y :2, thrown NilError :2",
		"first":   "ok 3 :5, ok 2 :5, ok 1 :5, ok 4 :5",
		"where":   "ok 2 :5, ok 2 :5, ok 2 :5, ok 2 :5",
		"ahead":   "thrown DivError :2, thrown X :2, thrown Y :2, thrown NilError :2",
		"behind":  "thrown DivError :2, thrown X :2, thrown Y :2, thrown NilError :2",
		"itself":  "ok @4 :3, ok @7 :3, ok @8 :3, ok @1 :3",
		"stack":   "ok 3 :7, ok 3 :7, ok 3 :7, ok 3 :7",
		"height":  "ok 4 :7, ok 4 :7, ok 4 :7, ok 4 :7",
		"locals":  "ok 15 :11, ok 15 :11, ok 15 :11, ok 15 :11",
		"again":   "ok 5 :6, ok 5 :6, ok 5 :6, ok 5 :6",
		"out":     "thrown DivError :3, thrown X :3, thrown Y :3, thrown NilError :3",
		"thrower": "thrown DivError :2, thrown X :2, thrown Y :2, thrown NilError :2",
		"below":   "thrown DivError :5, ok 6 :8, ok 6 :8, thrown NilError :5",
		"lower":   "ok 7 :10, ok 6 :11, ok 6 :11, thrown NilError :7",
		"call":    "ok 2 :7, ok 2 :7, ok 2 :7, ok 2 :7",
	} {
		g := "(LThrowable;)I"
		if name == "itself" {
			g = "(LThrowable;)LThrowable;"
		}
		for i, want := range strings.Split(wants, ", ") {
			runs(t, m, "M "+name+" "+g, strings.Fields("@4 @7 @8 @0")[i], want)
		}
	}
	if got := resText(run(m, 40, "M loop (LThrowable;)I", "@7")); got != "fuel :40" {
		t.Errorf("%s", got)
	}
}

// P1402: a handler of an interface takes nothing, though the object's class has it.
func TestHandlerOfAnInterface(t *testing.T) {
	m := begin(t, family, "class Z Throwable I\n"+plain("Throwable")+"does i ()I\nnumber 1\ngive\n", "class M Object\ndoes static f ()I\nfrom: "+made("Z")+"throw\nto: nop\na: pop\nnumber 1\ngive\nb: pop\nnumber 2\ngive\ncatch from to a I\ncatch from to b Z\n")
	runs(t, m, "M f ()I", "", "ok 2 :10")
}

// P1402: a handler finds the object alone on the Stack, known by its own type.
func TestWhatAHandlerFinds(t *testing.T) {
	const catch = "to: nop\nat: get X n I\ngive\ncatch from to at Throwable"
	tells(t, "()I", "from: "+made("Y")+"dup\nnumber 5\nput X n I\nthrow\n"+catch, "", "ok 5 :15")
	tells(t, "()I", "from: nil\nthrow\n"+catch, "", "trap :2")
	tells(t, "()I 1 0", "from: nil\nthrow\nto: nop\nat: pop\nnumber 5\ngive\ncatch from to at Throwable", "", "ok 5 :5")
}

// P1402: what instructions throw is caught at their places, where nothing of them was done.
func TestCaughtWhereItIsThrown(t *testing.T) {
	const catch = "\nto: nop\nat: pop\nload 1\ngive\ncatch from to at "
	for code, class := range map[string]string{
		"number 1\nnumber 0\ndiv\nstore 1": "DivError", "number 1\nnumber 0\nrem\nstore 1": "DivError",
		"nil\nget A x I\nstore 1": "NilError", "nil\nnumber 6\nput A x I\nnumber 6\nstore 1": "NilError", "nil\nlength\nstore 1": "NilError", "nil\nnumber 0\nnumget\nstore 1": "NilError", "nil\ncall A who ()I\nstore 1": "NilError", "nil\nface I i ()I\nstore 1": "NilError",
		"number -1\narray I\nlength\nstore 1": "BoundsError", "number 2\narray I\nnumber 2\nnumget\nstore 1": "BoundsError", "number 2\narray I\nnumber -1\nnumber 3\nnumput\nnumber 6\nstore 1": "BoundsError",
		made("A") + "cast LB;\npop\nnumber 6\nstore 1": "CastError",
	} {
		for _, takes := range []string{class, "Throwable", "Object"} {
			m := alone(t, "(I)I", "number 5\nstore 1\nfrom: "+code+catch+takes, family)
			if r := run(m, 99, "M f (I)I", "0"); r.Err != api.OK || r.Value != num(5) {
				t.Errorf("%s\n%s: %s", code, takes, resText(r))
			}
		}
		for _, takes := range []string{"X", "HeapError", "A", "I", map[bool]string{true: "NilError", false: "DivError"}[class == "DivError"]} {
			m := alone(t, "(I)I", "number 5\nstore 1\nfrom: "+code+catch+takes, family)
			if r := run(m, 99, "M f (I)I", "0"); r.Err != api.ErrThrown || r.Thrown != class {
				t.Errorf("%s\n%s: %s", code, takes, resText(r))
			}
		}
	}
}

// P1402: frames that are gone leave room for others; what was thrown through them ends no `init`.
func TestFramesGone(t *testing.T) {
	const text = "class M Object\ndoes static deep (I)I\nload 0\nzero end\nload 0\nnumber 1\nsub\nstatic M deep (I)I\ngive\nend: number 1\nload 0\ndiv\ngive\n" +
		"does static often (I)I\nagain: load 0\nzero end\nload 0\nnumber 1\nsub\nstore 0\nfrom: number 14\nstatic M deep (I)I\nto: nop\nat: pop\njump again\nend: number 3\ngive\ncatch from to at DivError\n"
	m := begin(t, text)
	if r := run(m, 1<<20, "M often (I)I", "500"); r.Err != api.OK || r.Value != num(3) {
		t.Errorf("%s", resText(r))
	}
}

// full fills the heap of a machine with arrays, till so many bytes are left.
func full(t testing.TB, m *slow.Machine, left int) {
	t.Helper()
	for {
		n := (1<<24 - m.Stat().Bytes - left - 16) / 8
		if n < 0 {
			break
		}
		if r := m.Run(9, "Fill", "array", sig("(I)V"), num(int64(min(n, 65536)))); r.Err != api.OK {
			t.Fatal(resText(r))
		}
	}
	if got := m.Stat().Bytes; got != 1<<24-left {
		t.Fatalf("%d bytes, %d are to be left", got, left)
	}
}

const filler = "class Fill Object\ndoes static array (I)V\nload 0\narray I\npop\nreturn\n" +
	"does static a ()I\nnew A\npop\nnumber 1\ngive\n" +
	"does static row (I)I\nload 0\narray LA;\npop\nnumber 1\ngive\n" +
	"does static safe (I)LThrowable;\nfrom: load 0\narray I\npop\nnew A\npop\nto: jump from\nat: give\ncatch from to at HeapError\n" +
	"does static other ()I\nfrom: new A\npop\nto: jump from\nat: pop\nnumber 2\ngive\ncatch from to at DivError\n" +
	"does static below (I)I\nfrom: load 0\nstatic Fill row (I)I\nto: give\nat: pop\nnumber 3\ngive\ncatch from to at Throwable\n" +
	"does static x ()I\nnew X\npop\nnumber 1\ngive\n"

// P1402, P1401: the heap gives out 1 << 24 bytes in all: an A has 48, an X 24. HeapError where there is no room, caught and not.
func TestHeapError(t *testing.T) {
	w := world(t, family, filler)
	m := of(t, w, 9)
	full(t, m, 56)
	runs(t, m, "Fill a ()I", "", "ok 1 :4")
	for range 2 {
		runs(t, m, "Fill a ()I", "", "thrown HeapError :1")
		runs(t, m, "Fill x ()I", "", "thrown HeapError :1")
		runs(t, m, "Fill row (I)I", "0", "thrown HeapError :2")
		runs(t, m, "Fill row (I)I", "65536", "thrown HeapError :2")
		runs(t, m, "Fill row (I)I", "65537", "thrown BoundsError :2")
		runs(t, m, "Fill safe (I)LThrowable;", "0", "ok @6 :3")
		runs(t, m, "Fill other ()I", "", "thrown HeapError :1")
		runs(t, m, "Fill below (I)I", "0", "ok 3 :7")
	}
	if got := m.Stat(); got.Bytes != 1<<24-8 {
		t.Errorf("%v", got)
	}
	m = of(t, w, 9)
	full(t, m, 48)
	runs(t, m, "Fill safe (I)LThrowable;", "1", "ok @6 :5") // the array has room, the A has none
	runs(t, m, "Fill x ()I", "", "ok 1 :4")
	runs(t, m, "Fill x ()I", "", "thrown HeapError :1")
}

// P1402: to the last byte, and not one slot more.
func TestHeapToTheLastByte(t *testing.T) {
	w := world(t, family, filler)
	for n := range 4 {
		m := of(t, w, 9)
		full(t, m, 16+8*n)
		runs(t, m, "Fill row (I)I", fmt.Sprint(n+1), "thrown HeapError :2")
		runs(t, m, "Fill row (I)I", fmt.Sprint(n), "ok 1 :5")
		runs(t, m, "Fill row (I)I", "0", "thrown HeapError :2")
		if got := m.Stat().Bytes; got != 1<<24 {
			t.Errorf("%d", got)
		}
	}
}
