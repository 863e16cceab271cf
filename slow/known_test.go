package slow_test

import (
	"testing"

	"keystone/api"
	"keystone/verify"
)

// P1402: a fresh object, on the Stack and in Locals: by `init` it is initialised wherever it stands.
func TestFresh(t *testing.T) {
	const x = "get A x I\n"
	tells(t, "()I", "new A\ndup\ndup\nstore 0\ninit A <init> ()V\n"+x+"load 0\n"+x+"add\ngive", "", "ok 0 :13")
	tells(t, "()I", "new A\ndup\nstore 0\nstore 1\nload 0\ninit A <init> ()V\nload 1\n"+x+"load 0\n"+x+"add\ngive", "", "ok 0 :15")
	for _, use := range []string{x, "isnil end", "number 1\nput A x I", "puts A s LA;", "cast LA;", "is LA;", "call A who ()I", "face I i ()I", "throw", "length", "dup\nsame end", "print", "static M f (LA;)I"} {
		for _, from := range []string{"new A\n", "new A\nstore 0\nload 0\n", "new A\ndup\n", "new A\ndup\ninit A <init> ()V\nnew A\n"} {
			m := alone(t, "(LA;)I", from+use+"\nend: number 1\ngive\n", family)
			if r := run(m, 99, "M f (LA;)I", "@0"); r.Err != api.ErrTrap {
				t.Errorf("%s%s: %s", from, use, resText(r))
			}
		}
	}
	for _, code := range []string{"new A\npop", "new A\nstore 0\nnil\nstore 0", "new A\ndup\npop\npop", "new A\nnew A\nswap\npop\npop", "new A\nload 0\nswap\npop\npop", "new A\ndup\ninit A <init> ()V\nputs A s LA;"} {
		m := alone(t, "()V", code+"\nreturn", family)
		if r := run(m, 99, "M f ()V", ""); r.Err != api.OK {
			t.Errorf("%s: %s", code, resText(r))
		}
	}
}

// P1402: a fresh object is of just its own class; another constructor than of that class is refused.
func TestFreshOfItsClass(t *testing.T) {
	tells(t, "()V", "new B\ninit A <init> ()V\nreturn", "", "trap :1")
	tells(t, "()V", "new A\ninit Object <init> ()V\nreturn", "", "trap :1")
	tells(t, "()V", "new Object\ninit Object <init> ()V\nreturn", "", "ok 0 :3")
	tells(t, "()V", "new DivError\ninit Throwable <init> ()V\nreturn", "", "trap :1")
	tells(t, "()V", made("A")+"init Object <init> ()V\nreturn", "", "trap :6")
	tells(t, "()V", "nil\ninit A <init> ()V\nreturn", "", "trap :1")
	tells(t, "()V", "new A\ndup\ninit A <init> ()V\ninit A <init> ()V\nreturn", "", "trap :6")
}

// twice makes two objects at one place: local 1 is the first one, local 2 the second one, neither initialised.
const twice = "again: load 2\nstore 1\nnew A\nstore 2\nload 0\nzero on\nload 0\nnumber 1\nsub\nstore 0\njump again\non: "

// P1402: two objects made at one place are two: `init` of the one leaves the other one as it is.
func TestTwoFreshOfOnePlace(t *testing.T) {
	const init, use = "init A <init> ()V\n", "get A x I\n"
	tells(t, "(I)I", twice+"load 2\n"+init+"load 2\n"+use+"give", "1", "ok 0 :25")
	tells(t, "(I)I", twice+"load 2\n"+init+"load 1\n"+use+"give", "1", "trap :23")
	tells(t, "(I)I", twice+"load 1\n"+init+"load 1\n"+use+"give", "1", "ok 0 :25")
	tells(t, "(I)I", twice+"load 1\n"+init+"load 2\n"+use+"give", "1", "trap :23")
	tells(t, "(I)I", twice+"load 1\n"+init+"load 2\n"+init+"load 1\n"+use+"load 2\n"+use+"add\ngive", "1", "ok 0 :33")
	tells(t, "(I)I", twice+"load 1\n"+init+"load 1\n"+init+"number 0\ngive", "1", "trap :23")
	tells(t, "(I)I", twice+"load 1\n"+init+"number 0\ngive", "0", "trap :7") // there it is empty
}

// selves is a world in which B below A has the constructor of that code.
func selves(code string) string {
	return "class A Object\nhas x I\nhas static s LA;\n" + plain("Object") + "does <init> (I)V\nload 0\ninit Object <init> ()V\nload 0\nputs A s LA;\nload 1\nnumber 0\ndiv\npop\nreturn\n" +
		"class B A\nhas y I\ndoes <init> ()V\n" + code + "\ndoes <init> (II)V\nload 0\ninit A <init> ()V\nreturn\ndoes who ()I\nnumber 2\ngive\n" +
		"does static new ()LB;\nnew B\ndup\ninit B <init> ()V\ngive\n"
}

// P1402: the object that a constructor was called for, ahead of `init`, and behind it.
func TestSelf(t *testing.T) {
	const init = "load 0\ninit A <init> ()V\n"
	for code, want := range map[string]string{
		init + "return":                          "ok @7 :10",
		"return":                                 "trap :3",
		"load 0\npop\nreturn":                    "trap :5",
		"load 0\nget A x I\npop\nreturn":         "trap :4",
		"load 0\nisnil end\nend: return":         "trap :4",
		"load 0\nputs A s LA;\nreturn":           "trap :4",
		"load 0\nthrow":                          "trap :4",
		"load 0\ninit Object <init> ()V\nreturn": "trap :4", // two above
		init + init + "return":                   "trap :9",
		init + "load 0\ninit B <init> (II)V":     "trap :9",
		"load 0\nstore 3\n" + init + "load 3\nget B y I\nprint\nreturn":                                          "ok @7 :15 [0]",
		"load 0\n" + init + "get B y I\nprint\nreturn":                                                           "ok @7 :13 [0]",
		init + "load 0\ncall B who ()I\nprint\nreturn":                                                           "ok @7 :15 [2]",
		"load 0\nnumber 1\nnumber 2\ninit B <init> (II)V\nload 0\nnumber 4\nput B y I\nreturn":                   "ok @7 :18",
		"number 0\nstore 0\nreturn":                                                                              "trap :5",
		init + "number 0\nstore 0\nreturn":                                                                       "ok @7 :12",
		"new B\npop\n" + init + "return":                                                                         "ok @7 :12",
		"new B\nstore 1\nload 1\nnumber 1\nnumber 2\ninit B <init> (II)V\nload 1\ncall B who ()I\nprint\nreturn": "trap :20 [2]", // that was another one
	} {
		m := begin(t, selves(code))
		if got := resText(run(m, 99, "B new ()LB;", "")); got != want {
			t.Errorf("%s: %s, wanted %s", code, got, want)
		}
	}
}

// P1402: in a constructor of a class above the object is known as of that one's class, and behind `init` by its own type.
func TestSelfOfTheClassAbove(t *testing.T) {
	const text = "class A Object\ndoes <init> ()V\nload 0\ninit Object <init> ()V\nload 0\ncall B who ()I\nprint\nreturn\n" +
		"class B A\n" + "does <init> ()V\nload 0\ninit A <init> ()V\nreturn\ndoes who ()I\nnumber 2\ngive\n" +
		"does static a ()LA;\nnew A\ndup\ninit A <init> ()V\ngive\ndoes static b ()LA;\nnew B\ndup\ninit B <init> ()V\ngive\n"
	m := begin(t, text)
	runs(t, m, "B b ()LA;", "", "ok @7 :15 [2]")
	runs(t, m, "B a ()LA;", "", "trap :6")
}

// thrower is a world in which the constructor of X throws: with 0 ahead of the `init` within, with 1 behind it, with 2 the object itself; with another number it ends.
const thrower = "class X Throwable\nhas x I\nhas static s LX;\n" +
	"does <init> (I)V\nload 1\nzero bad\nload 0\ninit Throwable <init> ()V\nload 1\nnumber 1\nsub\nzero bad\nload 0\nputs X s LX;\nload 1\nnumber 2\nsub\nzero own\nreturn\nbad: number 1\nnumber 0\ndiv\npop\njump bad\nown: load 0\nthrow\n" +
	"class Y X\ndoes <init> (I)V\nfrom: load 0\nload 1\ninit X <init> (I)V\nto: return\nat: pop\nload 0\nnumber 3\ninit X <init> (I)V\nload 0\nget X x I\nprint\nreturn\ncatch from to at Throwable\n" +
	"does <init> ()V\nfrom: load 0\nnumber 1\ninit X <init> (I)V\nto: return\nat: pop\nreturn\ncatch from to at Throwable\n" +
	"class M Object\n" +
	// Here the object is made, and used as it was caught, by its local, or made good.
	"does static use (I)I\nnew X\nstore 1\nfrom: load 1\nload 0\ninit X <init> (I)V\nto: load 1\nget X x I\ngive\nat: pop\njump to\ncatch from to at Throwable\n" +
	"does static mend (I)I\nnew X\nstore 1\nfrom: load 1\nload 0\ninit X <init> (I)V\nto: load 1\nget X x I\ngive\nat: pop\nload 1\nnumber 3\ninit X <init> (I)V\njump to\ncatch from to at Throwable\n" +
	"does static again (I)I\nnew X\nstore 1\nfrom: load 1\nload 0\ninit X <init> (I)V\nto: load 1\nget X x I\ngive\nat: throw\ncatch from to at Throwable\n" +
	"does static given (I)I\nnew X\nstore 1\nfrom: load 1\nload 0\ninit X <init> (I)V\nto: load 1\nget X x I\ngive\nat: pop\ngets X s LX;\nget X x I\ngive\ncatch from to at Throwable\n" +
	"does static y (I)LY;\nnew Y\ndup\nload 0\ninit Y <init> (I)V\ngive\n" +
	"does static z ()LY;\nnew Y\ndup\ninit Y <init> ()V\ngive\n"

// P1402: where a constructor has thrown, the object is as it was ahead: it can't be used, but be initialised.
func TestWhereAConstructorHasThrown(t *testing.T) {
	m := begin(t, thrower)
	runs(t, m, "M use (I)I", "3", "ok 0 :23")
	runs(t, m, "M use (I)I", "0", "trap :13")
	runs(t, m, "M use (I)I", "1", "trap :19")
	runs(t, m, "M use (I)I", "2", "trap :24")
	runs(t, m, "M mend (I)I", "3", "ok 0 :23")
	runs(t, m, "M mend (I)I", "0", "ok 0 :33")
	runs(t, m, "M mend (I)I", "1", "ok 0 :39")
	runs(t, m, "M mend (I)I", "2", "ok 0 :44")
}

// P1402: likewise within a constructor whose `init` has thrown.
func TestWhereAnInitWithinHasThrown(t *testing.T) {
	m := begin(t, thrower)
	runs(t, m, "M y (I)LY;", "3", "ok @7 :24")
	runs(t, m, "M y (I)LY;", "0", "ok @8 :36 [0]")
	runs(t, m, "M y (I)LY;", "1", "ok @9 :42 [0]")
	runs(t, m, "M z ()LY;", "", "trap :18")
}

// P1404: of an object that its constructor has given away ahead of throwing, what is given back is known as any object that comes from elsewhere, as the verifier takes it.
func TestGivenAwayAheadOfThrowing(t *testing.T) {
	w := world(t, thrower+"class Q X\ndoes <init> (I)V\nfrom: load 0\nload 1\ninit X <init> (I)V\nto: return\nat: store 2\nload 2\nget X x I\nprint\nload 2\nthrow\ncatch from to at X\n"+
		"class R Object\ndoes static new (I)LQ;\nnew Q\ndup\nload 0\ninit Q <init> (I)V\ngive\n")
	for _, class := range []string{"M", "Q", "R", "X"} {
		c, _, _ := w.Class(class)
		for n, f := range c.Methods {
			if _, e := verify.Method(w, class, n); e != api.OK && f.Name != "use" {
				t.Errorf("%s %s: %v", class, f.Name, e)
			}
		}
	}
	m := of(t, w, 16)
	runs(t, m, "M again (I)I", "2", "thrown X :22")
	runs(t, m, "M given (I)I", "2", "ok 0 :25")
	runs(t, m, "R new (I)LQ;", "2", "thrown Q :29 [0]")
}

// P1402: an object that comes from elsewhere is known by its own type; nil as nil, wherever it comes from.
func TestKnownByItsOwnType(t *testing.T) {
	const from = "class P Object\nhas o LObject;\nhas static t LObject;\n" + "does <init> ()V\nload 0\ninit Object <init> ()V\nreturn\ndoes static same (LObject;)LObject;\nload 0\ngive\n"
	for _, by := range []string{"static P same (LObject;)LObject;\n", "puts P t LObject;\ngets P t LObject;\n", "store 1\n" + made("P") + "dup\nload 1\nput P o LObject;\nget P o LObject;\n", "store 1\nnumber 1\narray LObject;\ndup\nnumber 0\nload 1\nrefput\nnumber 0\nrefget\n", "cast LObject;\n"} {
		for _, use := range []string{"call B who ()I", "get A x I", "face J i ()I"} {
			m := alone(t, "()I", made("B")+by+use+"\ngive", family, from)
			if r := run(m, 99, "M f ()I", ""); r.Err != api.OK {
				t.Errorf("%s%s: %s", by, use, resText(r))
			}
			m = alone(t, "()I", made("A")+by+"call B who ()I\ngive", family, from)
			if r := run(m, 99, "M f ()I", ""); r.Err != api.ErrTrap {
				t.Errorf("%s%s: %s", by, use, resText(r))
			}
			m = alone(t, "()I", "nil\n"+by+use+"\ngive", family, from)
			if r := run(m, 99, "M f ()I", ""); r.Err != api.ErrThrown || r.Thrown != "NilError" {
				t.Errorf("nil\n%s%s: %s", by, use, resText(r))
			}
		}
	}
	// Of args, too.
	m := alone(t, "(LObject;)I", "load 0\ncall B who ()I\ngive", family, "class P Object\ndoes static b ()LB;\n"+made("B")+"give\n")
	runs(t, m, "A made ()LA;", "", "ok @7 :7")
	runs(t, m, "P b ()LB;", "", "ok @8 :10")
	runs(t, m, "M f (LObject;)I", "@8", "ok 20 :5")
	runs(t, m, "M f (LObject;)I", "@7", "trap :1")
	runs(t, m, "M f (LObject;)I", "@0", "thrown NilError :2")
}

// P1402: an object that was never initialised, as its run ended, is known to later ones as any other.
func TestLeftFresh(t *testing.T) {
	m := alone(t, "()V", "new A\npop\nreturn", family)
	runs(t, m, "M f ()V", "", "ok 0 :3")
	runs(t, m, "A who ()I", "@7", "ok 10 :2")
}

// P1402: an empty local may be moved, and nothing else.
func TestEmptyLocals(t *testing.T) {
	tells(t, "()I", "load 3\nstore 4\nload 4\ndup\nswap\npop\npop\nnumber 1\ngive", "", "ok 1 :9")
	for _, use := range []string{"print", "isnil end", "neg", "throw", "length", "init A <init> ()V", "puts A s LA;", "puts A t I", "number 1\nadd", "get A x I", "zero end"} {
		m := alone(t, "()I", "load 3\n"+use+"\nend: number 1\ngive", family)
		if r := run(m, 99, "M f ()I", ""); r.Err != api.ErrTrap {
			t.Errorf("%s: %s", use, resText(r))
		}
	}
	tells(t, "()I", "load 3\ngive", "", "trap :1")
}
