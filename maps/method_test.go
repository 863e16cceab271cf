package maps_test

import (
	"math"
	"slices"
	"strings"
	"testing"

	"keystone/api"
	"keystone/frames"
	"keystone/hier"
	"keystone/maps"
	"keystone/verify"
)

// P1201: a method's maps: its parameters, what it loads, stores and takes off.
func TestMethod(t *testing.T) {
	tells(t, "static f ()I", 1, 0, "number 5\ngive", "0 /\n3 /0")
	tells(t, "static f ()V", 0, 0, "return", "0 /")
	tells(t, "f ()V", 0, 1, "return", "0 1/")
	tells(t, "f ()V", 0, 2, "return", "0 10/")
	tells(t, "static f (ILA;[I[LA;I)V", 2, 7, "nop\nreturn", "0 0111000/\n1 0111000/")
	tells(t, "f (ILI;)V", 0, 3, "return", "0 101/")
	tells(t, "f (I)V", 2, 3, "new A\nnil\npop\nstore 2\nreturn\nnop\nreturn", `
		0 100/
		3 100/1
		4 100/11
		5 100/1
		7 101/
		8 /
		9 /`)
	tells(t, "static f (I)LA;", 3, 2, "load 0\nload 0\nadd\nnil\nswap\npop\nstore 0\nload 0\ngive", `
		0 00/
		2 00/0
		4 00/00
		5 00/0
		6 00/01
		7 00/10
		8 00/1
		10 10/
		12 10/1`)
	tells(t, "static f ([I[LA;)V", 2, 2, "load 0\nnumber 1\nnumget\nstore 0\nload 1\nnumber 1\nrefget\nstore 1\nreturn", `
		0 11/
		2 11/1
		5 11/10
		6 11/0
		8 01/
		10 01/1
		13 01/10
		14 01/1
		16 01/`)
}

// P1201: an object that is not initialised, and a constructor's own, are objects.
func TestMethodsOfObjectsThatAreMade(t *testing.T) {
	tells(t, "<init> ()V", 1, 1, "load 0\ninit A <init> ()V\nreturn", "0 1/\n2 1/1\n5 1/")
	tells(t, "<init> (I)V", 1, 3, "load 0\nstore 2\nload 2\ninit A <init> ()V\nreturn", "0 100/\n2 100/1\n4 101/\n6 101/1\n9 101/")
	tells(t, "static f ()V", 3, 1, "new A\ndup\nstore 0\ndup\ninit A <init> ()V\npop\nreturn", "0 0/\n3 0/1\n4 0/11\n6 1/1\n7 1/11\n10 1/1\n11 1/")
	// Where it is made again the one that was made there before is forgotten.
	tells(t, "static f ()V", 1, 1, "a: new A\nstore 0\njump a", "0 0/\n3 0/1\n5 1/")
}

// P1201: loops, and ways that meet: what is an object by one way alone is none.
func TestMethodsWithLoops(t *testing.T) {
	tells(t, "static f (I)V", 1, 2, "load 0\nzero b\nnil\nstore 1\njump c\nb: number 5\nstore 1\nc: return", `
		0 00/
		2 00/0
		5 00/
		6 00/1
		8 01/
		11 00/
		14 00/0
		16 00/`)
	tells(t, "static f (ILA;LB;)V", 1, 3, "load 0\nzero b\nnil\nstore 1\nb: nop\nreturn", "0 011/\n2 011/0\n5 011/\n6 011/1\n8 011/\n9 011/")
	// By the second round a number stands there.
	tells(t, "static f (ILA;)V", 1, 2, "a: load 0\nstore 1\nload 0\nminus a\nreturn", "0 00/\n2 00/0\n4 00/\n6 00/0\n9 00/")
	tells(t, "static f (ILA;)V", 2, 2, "a: nil\nload 0\nzero b\nstore 1\njump a\nb: pop\nreturn", "0 01/\n1 01/1\n3 01/10\n6 01/1\n8 01/\n11 01/1\n12 01/")
	tells(t, "static f ()V", 0, 1, "a: jump a", "0 0/")
	// On the Stack: a number by one way, an object by the other one.
	tells(t, "static f (I)V", 2, 1, "load 0\nload 0\nzero b\nc: pop\nreturn\nb: pop\nnil\njump c", "0 0/\n2 0/0\n4 0/00\n7 0/0\n8 0/\n9 0/0\n10 0/\n11 0/1")
}

// P1201: a handler begins with what was caught alone, and with the Locals that are objects all over what it covers.
func TestMethodsWithHandlers(t *testing.T) {
	tells(t, "static f (II)I", 2, 2, "a: load 0\nload 1\ndiv\nb: give\nat: pop\nnumber 5\ngive\ncatch a b at DivError", `
		0 00/
		2 00/0
		4 00/00
		5 00/0
		6 00/1
		7 00/
		10 00/0`)
	tells(t, "static f (ILA;LA;)V", 1, 3, "a: load 0\nstore 1\nb: return\nat: store 0\nreturn\ncatch a b at X", "0 011/\n2 011/0\n4 001/\n5 011/1\n7 111/")
	tells(t, "static f (ILA;LA;)V", 1, 3, "a: load 0\nstore 1\nb: nop\nreturn\nat: store 0\nreturn\nend:\ncatch a at at X", "0 011/\n2 011/0\n4 001/\n5 001/\n6 001/1\n8 101/")
	// A handler of what is never done.
	tells(t, "static f (LA;)V", 1, 1, "return\na: nop\nb: return\nat: pop\nreturn\ncatch a b at X", "0 1/\n1 /\n2 /\n3 /\n4 /")
}

// P1201: code that is not reached has its places told, and nothing else.
func TestMethodsThatAreNotReachedWhole(t *testing.T) {
	tells(t, "static f (LA;)V", 2, 1, "jump b\nadd\nnumber 5\nb: return\nthrow", "0 1/\n3 /\n4 /\n7 1/\n8 /")
	tells(t, "static f (LA;)V", 0, 3, "a: jump a\nload 0\nload 1\nload 2", "0 100/\n3 /\n5 /\n7 /")
}

// P1201: verify.Method's errors: no such method, a handler of what is never thrown, no typing; the first one of these.
func TestMethodsThatAreRefused(t *testing.T) {
	w := alone(t, "static f ()I", 1, 0, "number 5\ngive")
	for _, x := range []struct {
		class  string
		method int
	}{
		{"", 0}, {"None", 0}, {"m", 0}, {"M ", 0}, {"LM;", 0}, {"\xff", 0},
		{"M", 1}, {"M", -1}, {"M", math.MinInt}, {"M", math.MaxInt}, {"M", 1 << 32},
		{"I", 0}, {"J", 0}, {"E", 0}, {"E", 3}, {"Object", 0}, {"Throwable", 0}, {"HeapError", 0},
	} {
		if l, e := maps.Method(w, x.class, x.method); e != api.ErrMember || len(l) > 0 {
			t.Errorf("%s, %d: %v, %s", x.class, x.method, e, texts(l))
		}
	}
	for _, x := range []struct {
		class  string
		method int
		want   string
	}{{"M", 0, "0 /\n3 /0"}, {"E", 1, "0 1/\n2 1/1\n5 1/"}, {"E", 2, "0 /"}, {"F", 0, "0 1/"}, {"F", 1, "0 1/\n2 1/1\n5 1/"}} {
		if l, e := maps.Method(w, x.class, x.method); e != api.OK || texts(l) != texts(mapsOf(x.want)) {
			t.Errorf("%s, %d: %v, %s", x.class, x.method, e, texts(l))
		}
	}
	for _, class := range []string{"Object", "A", "M"} {
		refuses(t, "static f ()V", 1, 0, "a: nop\nb: return\nat: pop\nreturn\ncatch a b at "+class, api.ErrSuper)
		refuses(t, "static f ()V", 1, 0, "a: pop\nb: return\nat: pop\nreturn\ncatch a b at "+class, api.ErrSuper)
	}
	for _, s := range []string{"pop\nreturn", "nop", "a: nil\njump a", "nil\ngive", "number 5\nnil\nadd\nreturn"} {
		refuses(t, "static f ()V", 2, 0, s, api.ErrTyping)
	}
}

// each goes through methods made at random.
func (x *maker) each(t *testing.T, rounds, most int, tell func(w *hier.World, n int, code []byte)) {
	t.Helper()
	for range rounds {
		size := 2 + x.r.Intn(most)
		w := x.world(t, func(n int) api.Method { return x.made(n, size) })
		c, _, _ := w.Class("M")
		for n := range headings {
			tell(w, n, c.Methods[n].Code)
		}
	}
}

// P1201: of methods made at random the maps are Of their code and of verify.Method's frames, by the words of the chapter, too; or its error.
func TestMethodsAtRandom(t *testing.T) {
	x := newMaker(t, 1201)
	met := map[api.Errno]int{}
	dead := 0
	x.each(t, 300, 14, func(w *hier.World, n int, code []byte) {
		l, err := verify.Method(w, "M", n)
		got, e := maps.Method(w, "M", n)
		met[e]++
		if e != err || e != api.OK && len(got) > 0 {
			t.Fatalf("%v, wanted %v: %s", e, err, texts(got))
		}
		if e != api.OK {
			return
		}
		if slices.ContainsFunc(l, func(f api.Frame) bool { return !frames.Reached(f) }) {
			dead++
		}
		same, e := maps.Of(code, l)
		if plain, _ := plainOf(code, l); e != api.OK || texts(got) != texts(same) || texts(got) != plain {
			t.Fatalf("%s\n%v, %s\n%s", texts(got), e, texts(same), plain)
		}
	})
	if met[api.OK] < 400 || met[api.ErrTyping] < 100 || met[api.ErrSuper] < 4 || dead < 50 {
		t.Errorf("%v, %d with code that is not reached", met, dead)
	}
}

// Limits: a method of as many bytes, Locals and places as there may be; its maps fit their bytes.
func TestTheGreatestMethod(t *testing.T) {
	s := strings.Repeat("nil\n", api.MaxStack) + strings.Repeat("pop\n", api.MaxStack)
	k := begin().family()
	m := k.method("static f (LA;I)V", api.MaxStack, api.MaxLocals, strings.Repeat(s, 7)+"a: jump a")
	for len(m.Code) < api.MaxCode {
		m.Code = append(m.Code, api.INop)
	}
	k.class("M A", m)
	l, e := maps.Method(linked(t, k.module()), "M", 0)
	if e != api.OK || len(l) != 897+api.MaxCode-899 {
		t.Fatalf("%d maps, %v", len(l), e)
	}
	locals := bitsOf("1" + strings.Repeat("0", api.MaxLocals-1))
	for n, m := range l {
		want := api.Map{At: n}
		if n > 896 {
			want.At += 2
		} else {
			depth := n % 128
			if depth > 64 {
				depth = 128 - depth
			}
			want.Locals, want.Stack = locals, slices.Repeat([]bool{true}, depth)
		}
		if text(m) != text(want) {
			t.Fatalf("%d: %s, wanted %s", n, text(m), text(want))
		}
	}
	both(t, l...)
}
