package slow_test

import (
	"fmt"
	"strings"
	"testing"

	"keystone/api"
)

// P1402: calls by class and by interface: the method of the object's own class.
func TestPicked(t *testing.T) {
	for _, x := range things[:3] {
		want := map[string][3]string{"LA;": {"10", "1", ""}, "LB;": {"20", "1", "-5"}, "LC;": {"20", "3", "-5"}}[x[0]]
		m := begin(t, family, "class M Object\ndoes static made ()LA;\n"+x[1]+"give\n"+
			"does static who (LA;)I\nload 0\ncall A who ()I\ngive\n"+
			"does static i (LI;)I\nload 0\nface I i ()I\ngive\n"+
			"does static low (LJ;)I\nload 0\nface J i ()I\ngive\n"+
			"does static j (LJ;I)I\nload 0\nload 1\nface J j (I)I\ngive\n")
		runs(t, m, "M made ()LA;", "", map[string]string{"LA;": "ok @7 :7", "LB;": "ok @7 :10", "LC;": "ok @7 :13"}[x[0]])
		runs(t, m, "M who (LA;)I", "@7", "ok "+want[0]+" :5")
		runs(t, m, "M i (LI;)I", "@7", "ok "+want[1]+" :5")
		runs(t, m, "A who ()I", "@7", "ok "+want[0]+" :2")
		runs(t, m, "A i ()I", "@7", "ok "+want[1]+" :2")
		if want[2] != "" {
			runs(t, m, "M low (LJ;)I", "@7", "ok "+want[1]+" :5")
			runs(t, m, "M j (LJ;I)I", "@7 5", "ok "+want[2]+" :7")
			runs(t, m, "B j (I)I", "@7 5", "ok "+want[2]+" :3")
			runs(t, m, "B i ()I", "@7", "ok "+want[1]+" :2")
		}
	}
	for _, call := range []string{"call A who ()I", "face I i ()I", "call C who ()I"} {
		tells(t, "()I", "nil\n"+call+"\ngive", "", "thrown NilError :2")
	}
	tells(t, "()I", made("F")+"call E e ()I\ngive", "", "ok 7 :13")
}

// kin are classes below Root, each with a method that gives its number, and one that puts an object of it into an array.
func kin(from, to int) string {
	var b strings.Builder
	for i := from; i < to; i++ {
		name, n := fmt.Sprint("K", i), fmt.Sprint("number ", i, "\n")
		b.WriteString("class " + name + " Root\n" + plain("Root") + "does n ()I\n" + n + "give\ndoes static put ([LRoot;)V\nload 0\n" + n + made(name) + "refput\nreturn\n")
	}
	return b.String()
}

// P1402: a call of one object after another one at one place, of a hundred classes.
func TestPickedInTurn(t *testing.T) {
	fill := "number 100\narray LRoot;\nstore 1\n"
	for i := range 100 {
		fill += fmt.Sprintf("load 1\nstatic K%d put ([LRoot;)V\n", i)
	}
	m := begin(t, "abstract Root Object\ndoes abstract n ()I\n"+plain("Object"), kin(0, 60), kin(60, 100),
		"class Q Object\ndoes static sum (I)I\nnumber 0\nstore 2\n"+fill+
			"round: load 0\nzero end\nload 0\nnumber 1\nsub\nstore 0\nnumber 0\nstore 3\n"+
			"next: load 3\nload 1\nlength\nless on\njump round\n"+
			"on: load 1\nload 3\nrefget\ncall Root n ()I\nload 2\nadd\nstore 2\nload 3\nnumber 1\nadd\nstore 3\njump next\nend: load 2\ngive\n")
	runs(t, m, "Q sum (I)I", "3", "ok 14850 :6948")
}

// P1402: args stand in the Locals in order; of a call with an object it is the first one; the others are empty.
func TestLocals(t *testing.T) {
	const text = "class N Object\ndoes static three (III)I\nload 0\nnumber 100\nmul\nload 1\nnumber 10\nmul\nadd\nload 2\nadd\ngive\n" +
		"does own (II)I\nload 1\nload 2\nsub\ngive\n" +
		"does self (I)LN;\nload 0\ngive\n" +
		"does static run ()I\nnumber 1\nnumber 2\nnumber 3\nstatic N three (III)I\ngive\n" +
		"does <init> ()V\nload 0\ninit Object <init> ()V\nreturn\n" +
		"does static low ()I\nnew N\ndup\ninit N <init> ()V\nnumber 7\nnumber 2\ncall N own (II)I\ngive\n" +
		"does static back ()LN;\nnew N\ndup\ninit N <init> ()V\nnumber 7\ncall N self (I)LN;\ngive\n" +
		"does static all (IIIIIIIIIIIIIIII)I 1 16\nload 15\ngive\n" +
		"does static empty (I)I\nload 1\ngive\n" +
		"does static other (I)I\nload 7\nstore 3\nload 0\ngive\n"
	m := begin(t, text)
	runs(t, m, "N run ()I", "", "ok 123 :15")
	runs(t, m, "N three (III)I", "4 5 6", "ok 456 :10")
	runs(t, m, "N low ()I", "", "ok 5 :14")
	runs(t, m, "N back ()LN;", "", "ok @8 :11")
	runs(t, m, "N own (II)I", "@8 1 2", "ok -1 :4")
	runs(t, m, "N self (I)LN;", "@7 3", "ok @7 :2")
	runs(t, m, "N all (IIIIIIIIIIIIIIII)I", "1 2 3 4 5 6 7 8 9 10 11 12 13 14 15 16", "ok 16 :2")
	runs(t, m, "N empty (I)I", "1", "trap :1")
	runs(t, m, "N other (I)I", "1", "ok 1 :4")
}

// P1402: a static method of a class above, and of one by another one's name.
func TestStaticCalls(t *testing.T) {
	m := begin(t, "class N Object\ndoes static f (I)I\nload 0\nneg\ngive\n", "class P N\ndoes static g (I)I\nload 0\nstatic P f (I)I\ngive\n", "class Q P\ndoes static h (I)I\nload 0\nstatic Q g (I)I\ngive\n")
	runs(t, m, "Q h (I)I", "5", "ok -5 :9")
	runs(t, m, "Q f (I)I", "5", "ok -5 :3")
	runs(t, m, "Q g (I)I", "5", "ok -5 :6")
}

// P1402: constructors with values, of the class above, of the class itself.
func TestConstructors(t *testing.T) {
	m := begin(t, "class N Object\nhas n I\nhas m I\n"+
		"does <init> (II)V\nload 0\ninit Object <init> ()V\nload 0\nload 1\nput N n I\nload 0\nload 2\nput N m I\nreturn\n"+
		"does <init> (I)V\nload 0\nload 1\nload 1\ninit N <init> (II)V\nreturn\n"+
		"does static two (II)LN;\nnew N\ndup\nload 0\nload 1\ninit N <init> (II)V\ngive\n"+
		"does static one (I)LN;\nnew N\ndup\nload 0\ninit N <init> (I)V\ngive\n",
		"class P N\ndoes <init> (I)V\nload 0\nload 1\nnumber 1\ninit N <init> (II)V\nreturn\n"+
			"does static new (I)LP;\nnew P\ndup\nload 0\ninit P <init> (I)V\ngive\n")
	runs(t, m, "N two (II)LN;", "3 4", "ok @7 :15")
	runs(t, m, "N one (I)LN;", "5", "ok @8 :19")
	runs(t, m, "P new (I)LP;", "6", "ok @9 :19")
	for ref, want := range map[int64]string{7: "3 4", 8: "5 5", 9: "6 1"} {
		if _, l, e := m.Object(ref); e != api.OK || valText(l[0])+" "+valText(l[1]) != want {
			t.Errorf("%d: %v", ref, l)
		}
	}
}

// P1402: what a method gives stands on the Stack of the one below, above what stood there; a void one puts nothing.
func TestAnswers(t *testing.T) {
	m := begin(t, family, "class N Object\ndoes static five ()I\nnumber 9\nnumber 5\ngive\ndoes static nil ()LA;\nnil\ngive\ndoes static void ()V\nnumber 9\nreturn\n"+
		"does static a ()I\nnumber 100\nstatic N five ()I\nsub\ngive\n"+
		"does static b ()I\nnumber 100\nstatic N void ()V\ngive\n"+
		"does static c ()LA;\nstatic N nil ()LA;\ngive\n"+
		"does static d ()V\nstatic N five ()I\nprint\nreturn\n")
	runs(t, m, "N a ()I", "", "ok 95 :7")
	runs(t, m, "N b ()I", "", "ok 100 :5")
	runs(t, m, "N c ()LA;", "", "ok @0 :4")
	runs(t, m, "N d ()V", "", "ok 0 :6 [5]")
	runs(t, m, "N void ()V", "", "ok 0 :2")
	runs(t, m, "N nil ()LA;", "", "ok @0 :2")
}

// deep calls itself, by each kind of call, as often as its number says.
var deep = "interface D Object\ndoes abstract f (I)I\nclass N Object D\n" + plain("Object") +
	"does static s (I)I\nload 0\nzero end\nload 0\nnumber 1\nsub\nstatic N s (I)I\ngive\nend: load 0\ngive\n" +
	"does c (I)I\nload 1\nzero end\nload 0\nload 1\nnumber 1\nsub\ncall N c (I)I\ngive\nend: load 1\ngive\n" +
	"does f (I)I\nload 1\nzero end\nload 0\nload 1\nnumber 1\nsub\nface D f (I)I\ngive\nend: load 1\ngive\n" +
	"does <init> (I)V\nload 0\ninit Object <init> ()V\nload 1\nzero end\nnew N\nload 1\nnumber 1\nsub\ninit N <init> (I)V\nend: return\n" +
	"does static n (I)I\nnew N\nload 0\nnumber 1\nsub\ninit N <init> (I)V\nload 0\ngive\n" +
	"does static new ()LN;\n" + made("N") + "give\n" +
	"does static safe (I)I\nfrom: load 0\nstatic N s (I)I\ngive\nto: pop\nnumber -1\ngive\ncatch from to to DepthError\n"

// P1402: recursion up to depth, and one more, by each kind of call.
func TestDepth(t *testing.T) {
	w := world(t, deep)
	for _, depth := range []int{2, 3, 4, 10, 256} {
		m := of(t, w, depth)
		runs(t, m, "N new ()LN;", "", "ok @7 :7")
		d := int64(depth)
		for _, name := range []string{"s", "c", "f", "n"} {
			var own []api.Value
			if name == "c" || name == "f" {
				own = []api.Value{obj(7)}
			}
			if r := m.Run(100000, "N", name, sig("(I)I"), append(own, num(d-1))...); r.Err != api.OK {
				t.Errorf("%s of %d: %s", name, depth, resText(r))
			}
			if r := m.Run(100000, "N", name, sig("(I)I"), append(own, num(d))...); r.Err != api.ErrThrown || r.Thrown != "DepthError" || r.Value != (api.Value{}) {
				t.Errorf("%s of %d: %s", name, depth, resText(r))
			}
		}
		if r := m.Run(100000, "N", "safe", sig("(I)I"), num(d-2)); r.Err != api.OK || r.Value != num(0) {
			t.Errorf("safe of %d: %s", depth, resText(r))
		}
		if r := m.Run(100000, "N", "safe", sig("(I)I"), num(d-1)); r.Err != api.OK || r.Value != num(-1) {
			t.Errorf("safe of %d: %s", depth, resText(r))
		}
	}
}

// P1402: nil is asked ahead of depth; a constructor that is there from the beginning takes no frame.
func TestAtTheLastFrame(t *testing.T) {
	w := world(t, family, "class M Object\ndoes static nil ()I\nnil\ncall A who ()I\ngive\ndoes static face ()I\nnil\nface I i ()I\ngive\n"+
		"does static object ()LObject;\n"+made("Object")+"give\ndoes static div ()V\n"+made("DivError")+"throw\ndoes static a ()LA;\n"+made("A")+"give\n")
	m := of(t, w, 1)
	runs(t, m, "M nil ()I", "", "thrown NilError :2")
	runs(t, m, "M face ()I", "", "thrown NilError :2")
	runs(t, m, "M object ()LObject;", "", "ok @7 :4")
	runs(t, m, "M div ()V", "", "thrown DivError :4")
	runs(t, m, "M a ()LA;", "", "thrown DepthError :3")
	runs(t, of(t, w, 2), "M a ()LA;", "", "ok @7 :7")
}
