package slow_test

import (
	"fmt"
	"strings"
	"testing"

	"keystone/api"
	"keystone/hier"
	"keystone/instr"
	"keystone/step"
)

// stuff is a value that code can put on the Stack.
type stuff struct {
	code         string
	bytes, steps int
	objects      int
	known        api.VType
}

func known(kind int, s string) api.VType {
	v := api.VType{Kind: kind}
	if s != "" {
		v.Type = typ(s)
	}
	return v
}

// stuffs are one of each sort.
func stuffs() []stuff {
	return []stuff{
		{"number 1\n", 3, 1, 0, known(api.VNum, "")},
		{"nil\n", 1, 1, 0, known(api.VNil, "")},
		{"load 7\n", 2, 1, 0, known(api.VTop, "")},
		{"new A\n", 3, 1, 1, known(api.VFresh, "LA;")},
		{made("A"), 7, 6, 1, known(api.VRef, "LA;")},
		{made("X"), 7, 6, 1, known(api.VRef, "LX;")},
		{"number 1\narray I\n", 6, 2, 1, known(api.VRef, "[I")},
		{"number 1\narray LA;\n", 6, 2, 1, known(api.VRef, "[LA;")},
	}
}

// piles are all rows of at most so many of some.
func piles(most int, l []stuff) [][]stuff {
	all := [][]stuff{nil}
	last := all
	for range most {
		var next [][]stuff
		for _, row := range last {
			for _, x := range l {
				next = append(next, append(row[:len(row):len(row)], x))
			}
		}
		all, last = append(all, next...), next
	}
	return all
}

// built is what putting a pile on the Stack does.
func built(pile []stuff) (code string, steps, objects int, f api.Frame) {
	f = api.Frame{Self: known(api.VTop, "")}
	for range 8 {
		f.Locals = append(f.Locals, f.Self)
	}
	at := 0
	for _, x := range pile {
		if x.known.Kind == api.VFresh {
			// One that the instruction itself would make anew is not looked for here: each stands at a place of its own.
			x.known.At = at
		}
		code += x.code
		at += x.bytes
		steps += x.steps
		objects += x.objects
		f.Stack = append(f.Stack, x.known)
	}
	return
}

// tried are instructions, each in methods of a kind (the signature) that may have them or not.
var tried = []string{
	"()V nop", "()V number 5", "()V nil", "()V load 0", "()V store 0", "()V pop", "()V dup", "()V swap", "()V add", "()V sub", "()V mul", "()V div", "()V rem", "()V neg", "()V and", "()V or", "()V xor", "()V shl", "()V shr",
	"()V jump end", "()V zero end", "()V minus end", "()V less end", "()V isnil end", "()V same end",
	"()V new A", "()V new E", "()V new I", "()V new DivError", "()V get A x I", "()V get A next LA;", "()V get A t I", "()V get A x LA;", "()V get B x I", "()V get I x I", "()V put A x I", "()V put A next LA;", "()V put A any LObject;", "()V put A row [I", "()V put A s LA;",
	"()V gets A s LA;", "()V gets A t I", "()V gets A x I", "()V gets A none I", "()V puts A s LA;", "()V puts A t I", "()V puts A x I",
	"()V array I", "()V array LA;", "()V numget", "()V numput", "()V refget", "()V refput", "()V length", "()V cast LA;", "()V cast [I", "()V is LA;", "()V is LI;",
	"()V call A who ()I", "()V call A none ()I", "()V call B j (I)I", "()V face I i ()I", "()V face J j (I)I", "()V face J none ()I", "()V static A made ()LA;", "()V static A who ()I", "()V static A none ()V", "()V init A <init> ()V", "()V init B <init> ()V", "()V init A <init> (I)V",
	"()V return", "()I return", "()LA; return", "()V give", "()I give", "()LA; give", "()LI; give", "()[I give", "()LObject; give", "()V throw", "()I throw", "()V print",
}

// trials are the world in which each pile has a method: T0 has the first 64, and so on.
func trials(t *testing.T, what string, all [][]stuff, stack int) *hier.World {
	t.Helper()
	g, line, _ := strings.Cut(what, " ")
	var b strings.Builder
	var texts []string
	for n, pile := range all {
		if n%64 == 0 {
			fmt.Fprintf(&b, "class T%d Object\n", n/64)
		}
		code, _, _, _ := built(pile)
		fmt.Fprintf(&b, "does static f%d %s %d 8\n%s%s\nend: return\n", n, g, stack, code, line)
		if n%640 == 639 {
			texts = append(texts, b.String())
			b.Reset()
		}
	}
	return world(t, append(texts, family, b.String())...)
}

// tries does an instruction behind each pile: there is a trap just where step.Step refuses it, and nothing of it is done then. It tells how many were done, and how many refused.
func tries(t *testing.T, what string, all [][]stuff, stack int) (done, refused int) {
	t.Helper()
	w := trials(t, what, all, stack)
	m := of(t, w, 4)
	g, _, _ := strings.Cut(what, " ")
	var c api.Class
	for n, pile := range all {
		class := fmt.Sprint("T", n/64)
		if n%64 == 0 {
			c, _, _ = w.Class(class)
		}
		code, steps, objects, f := built(pile)
		_, e := step.Step(w, class, n%64, decoded(c.Methods[n%64].Code, bytesOf(pile)), f)
		before := m.Stat().Objects
		r := m.Run(1000, class, fmt.Sprint("f", n), sig(g))
		if e == api.OK && (r.Steps <= steps || r.Err == api.ErrTrap && g == "()V") {
			t.Fatalf("%s behind\n%s: %s", what, code, resText(r))
		}
		if e == api.OK {
			done++
			continue
		}
		refused++
		if resText(r) != fmt.Sprint("trap :", steps) || m.Stat().Objects != before+objects {
			t.Fatalf("%s (%v) behind\n%s: %s, %v", what, e, code, resText(r), m.Stat())
		}
	}
	return done, refused
}

func bytesOf(pile []stuff) int {
	n := 0
	for _, x := range pile {
		n += x.bytes
	}
	return n
}

// P1402: each instruction behind each row of values of all sorts, as many as it may ask; where there is room, where the Stack is full, and where it has no places at all.
func TestTraps(t *testing.T) {
	var flat []stuff // those that take no more room while they are made
	for _, x := range stuffs() {
		if x.known.Kind != api.VRef || x.known.Type.Dims > 0 {
			flat = append(flat, x)
		}
	}
	done, refused := map[string]int{}, map[string]int{}
	try := func(what string, all [][]stuff, stack int) {
		word := strings.Fields(what)[1]
		n, m := tries(t, what, all, stack)
		done[word] += n
		refused[word] += m
	}
	for _, what := range tried {
		try(what, piles(2, stuffs()), 8)
		try(what, piles(2, flat), 2)
		try(what, piles(0, flat), 0)
		if strings.HasSuffix(what, "numput") || strings.HasSuffix(what, "refput") {
			try(what, piles(3, stuffs()), 8)
		}
	}
	for op := range api.LastInst + 1 {
		word := instr.Name(op)
		if done[word] == 0 || refused[word] == 0 && op != api.INop && op != api.IJump {
			t.Errorf("%s: %d done, %d refused", word, done[word], refused[word])
		}
	}
}

// P1402: by hand: what is refused, how many steps were counted; places at which no instruction begins.
func TestTrapsByHand(t *testing.T) {
	for _, x := range [][3]string{
		{"()I", "add\ngive", "trap :0"}, {"()I", "number 1\nadd\ngive", "trap :1"}, {"()I", "number 1\nnil\nadd\ngive", "trap :2"},
		{"()V", "nop", "trap :1"}, {"()V", "number 1\nzero end\nend: nop", "trap :3"}, {"()I", "return", "trap :0"}, {"()V", "number 1\ngive", "trap :1"},
		{"()I 1 0", "number 1\nnumber 2\nadd\ngive", "trap :1"}, {"()I 0 0", "number 1\ngive", "trap :0"}, {"()I 1 0", "number 1\ndup\nadd\ngive", "trap :1"},
		{"()V", "new A\nisnil end\nend: return", "trap :1"}, {"()LA;", "new A\ngive", "trap :1"}, {"()V", "new A\nputs A s LA;\nreturn", "trap :1"}, {"()V", "new A\nnumber 1\nput A x I\nreturn", "trap :2"},
		{"()V", made("A") + "init A <init> ()V\nreturn", "trap :6"}, {"()V", "new E\nreturn", "trap :0"}, {"()V", "new I\nreturn", "trap :0"},
		{"()V", made("A") + "print\nreturn", "trap :6"}, {"()V", "number 1\nthrow", "trap :1"}, {"()V", made("A") + "throw", "trap :6"}, {"()I", made("A") + "call B who ()I\ngive", "trap :6"},
		{"()V", "load 0\nprint\nreturn", "trap :1"}, {"()LA;", "number 1\narray LB;\nnumber 0\n" + made("A") + "refput\nnil\ngive", "trap :9"}, {"()V", "again: number 1\njump again", "trap :16"},
		{"()I", made("A") + "cast LObject;\nget A x I\ngive", "ok 0 :9"}, // known is the object's own type, whatever it was cast to
		{"()I", made("B") + "static M up (LA;)LA;\nget B x I\ngive", "ok 0 :14"},
	} {
		rest, code := x[0], x[1]+"\ndoes static up (LA;)LA;\nload 0\ngive\n"
		m := alone(t, rest, code, family)
		if got := resText(run(m, 1000, "M f "+strings.Fields(rest)[0], "")); got != x[2] {
			t.Errorf("%s\n%s: %s, wanted %s", rest, code, got, x[2])
		}
	}
}

// P1402: a trap in a frame above ends the run at once; no handler takes it.
func TestTrapsAreNotCaught(t *testing.T) {
	m := begin(t, family, "class M Object\ndoes static bad ()V\nnumber 7\nprint\nnumber 3\nputs A t I\nadd\nreturn\n"+
		"does static f ()V\nfrom: static M bad ()V\nto: return\nat: pop\nreturn\ncatch from to at Object\n"+
		"does static own ()V\nfrom: add\nto: return\nat: pop\nreturn\ncatch from to at Object\n")
	runs(t, m, "M f ()V", "", "trap :5 [7]")
	runs(t, m, "M own ()V", "", "trap :0")
	if v, e := m.Static("A", "t"); v != num(3) || e != api.OK {
		t.Errorf("%v, %v", v, e)
	}
	runs(t, m, "A made ()LA;", "", "ok @7 :7")
}

// P1402: ErrTrap of a handler in a method whose Stack is 0: the step is counted.
func TestTrapOfAHandler(t *testing.T) {
	const text = "class M Object\ndoes static flat ()V 0 0\nfrom: static M bad ()V\nto: return\nat: return\ncatch from to at DivError\n" +
		"does static bad ()V\nnumber 1\nnumber 0\ndiv\npop\nreturn\n" +
		"does static over ()V\nfrom: static M flat ()V\nto: return\nat: pop\nreturn\ncatch from to at Throwable\n" +
		"does static other ()V 0 0\nfrom: static M bad ()V\nto: return\nat: return\ncatch from to at NilError\n"
	m := begin(t, text, "class N Object\ndoes static pops ()V 0 0\nfrom: static M bad ()V\nto: return\nat: pop\nreturn\ncatch from to at DivError\n"+
		"does static none ()V 0 0\nfrom: static M bad ()V\nto: return\nat: nop\nreturn\ncatch from to at NilError\ncatch from to at DivError\n")
	runs(t, m, "N pops ()V", "", "trap :4")
	runs(t, m, "N none ()V", "", "trap :4")
	if r := run(m, 4, "N pops ()V", ""); resText(r) != "trap :4" { // it is in the step that it comes, not in the next one
		t.Error(resText(r))
	}
	runs(t, m, "M flat ()V", "", "trap :4")
	runs(t, m, "M over ()V", "", "trap :5")
	runs(t, m, "M other ()V", "", "thrown DivError :4")
}

// P1402: worlds need not be verified: what nothing comes to is not asked.
func TestWhatIsNotReached(t *testing.T) {
	tells(t, "(I)I", "load 0\nzero bad\nload 0\ngive\nbad: add\nadd\nadd", "5", "ok 5 :4")
	tells(t, "(I)I", "load 0\nzero bad\nload 0\ngive\nbad: add\nadd\nadd", "0", "trap :2")
	// Stacks of unlike depth may meet.
	tells(t, "(I)I", "load 0\nzero meet\nnumber 7\nmeet: number 8\ngive", "0", "ok 8 :4")
	tells(t, "(I)I", "load 0\nzero meet\nnumber 7\nmeet: number 8\ngive", "1", "ok 8 :5")
	tells(t, "(I)I", "again: load 0\nzero end\nload 0\nload 0\nnumber 1\nsub\nstore 0\njump again\nend: add\nadd\ngive", "3", "ok 6 :29")
}

// P1402: the same instruction is asked anew where it comes by with something else: another height, other values, another Self.
func TestAskedAnew(t *testing.T) {
	tells(t, "(I)V", "number 9\nstore 1\nagain: load 1\nprint\nload 0\nzero end\nload 0\nnumber 1\nsub\nstore 0\nload 0\nzero odd\njump again\nodd: nil\nstore 1\njump again\nend: return", "3", "trap :38 [9 9 9]")
	// The value that is asked last, where there are three.
	const second = "round: load 0\nzero end\nload 0\nnumber 1\nsub\nstore 0\nload 1\nnumber 0\n"
	tells(t, "(I)V", "number 1\narray I\nstore 1\n"+second+"number 7\nnumput\n"+made("A")+"store 1\njump round\nend: return", "2", "trap :30")
	tells(t, "(I)V", "number 1\narray LA;\nstore 1\n"+second+"nil\nrefput\nnumber 1\narray I\nstore 1\njump round\nend: return", "2", "trap :26")
	tells(t, "(I)V", "number 1\narray LA;\nstore 1\n"+second+"static A made ()LA;\nrefput\nnumber 1\narray LB;\nstore 1\njump round\nend: return", "2", "trap :40")
	m := begin(t, "class N Object\ndoes <init> (I)V 2 2\nload 1\nzero skip\nload 0\ninit Object <init> ()V\nskip: return\n"+
		"does static new (I)V\nnew N\nload 0\ninit N <init> (I)V\nreturn\n"+
		"does static both (I)V\nnumber 1\nstatic N new (I)V\nload 0\nstatic N new (I)V\nreturn\n")
	runs(t, m, "N both (I)V", "1", "ok 0 :23")
	runs(t, m, "N both (I)V", "0", "trap :18")
}
