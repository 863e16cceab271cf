package slow_test

import (
	"fmt"
	"strings"
	"testing"

	"keystone/api"
)

// P1402: nop, pop, dup, swap, load, store, nil, of numbers and of objects.
func TestMoves(t *testing.T) {
	tells(t, "(II)I", "nop\nload 0\nload 1\nswap\nsub\ngive", "10 3", "ok -7 :6")
	tells(t, "(II)I", "load 0\nload 1\nsub\ngive", "10 3", "ok 7 :4")
	tells(t, "(II)I", "load 0\nload 1\npop\ngive", "10 3", "ok 10 :4")
	tells(t, "(I)I", "load 0\ndup\nmul\ngive", "9", "ok 81 :4")
	tells(t, "(II)I", "load 0\nstore 1\nload 1\ngive", "10 3", "ok 10 :4")
	tells(t, "(II)I 1 64", "load 0\nstore 63\nnumber 5\nstore 0\nload 63\ngive", "10 3", "ok 10 :6")
	tells(t, "(I)LA;", "nil\nstore 0\nload 0\ngive", "4", "ok @0 :4")
	tells(t, "()LA;", made("A")+"nil\nswap\ngive", "", "ok @7 :9")
	tells(t, "()LObject;", made("A")+made("B")+"swap\ngive", "", "ok @7 :17")
	tells(t, "()LObject;", made("A")+"dup\nstore 3\nnil\nstore 4\nload 4\npop\nload 3\ngive", "", "ok @7 :14")
	tells(t, "(LObject;I)LObject;", "load 0\nload 1\npop\ndup\npop\ngive", "@3 4", "ok @3 :6")
	// As many places as there may be.
	tells(t, "()I 64 0", strings.Repeat("number 1\n", 64)+strings.Repeat("add\n", 63)+"give", "", "ok 64 :128")
}

// P1402: fields, of the class itself, from above, hidden ones.
func TestFields(t *testing.T) {
	const b = "does static b ()LB;\n" + "new B\ndup\ninit B <init> ()V\ngive\n"
	m := begin(t, family, "class M Object\n"+b+
		"does static put (LB;II)V\nload 0\nload 1\nput A x I\nload 0\nload 2\nput B x I\nreturn\n"+
		"does static a (LA;)I\nload 0\nget A x I\ngive\n"+
		"does static b (LB;)I\nload 0\nget B x I\ngive\n"+
		"does static link (LA;LA;)V\nload 0\nload 1\nput A next LA;\nreturn\n"+
		"does static next (LA;)LA;\nload 0\nget A next LA;\ngive\n"+
		"does static face (LB;LI;)LI;\nload 0\nload 1\nput B y LI;\nload 0\nget B y LI;\ngive\n"+
		"does static any (LA;LObject;)LObject;\nload 0\nload 1\nput A any LObject;\nload 0\nget B any LObject;\ngive\n")
	runs(t, m, "M b ()LB;", "", "ok @7 :10")
	runs(t, m, "M a (LA;)I", "@7", "ok 0 :3")
	runs(t, m, "M next (LA;)LA;", "@7", "ok @0 :3")
	runs(t, m, "M put (LB;II)V", "@7 5 6", "ok 0 :7")
	runs(t, m, "M a (LA;)I", "@7", "ok 5 :3")
	runs(t, m, "M b (LB;)I", "@7", "ok 6 :3")
	runs(t, m, "A made ()LA;", "", "ok @8 :7")
	runs(t, m, "M link (LA;LA;)V", "@7 @8", "ok 0 :4")
	runs(t, m, "M link (LA;LA;)V", "@8 @8", "ok 0 :4")
	runs(t, m, "M next (LA;)LA;", "@7", "ok @8 :3")
	runs(t, m, "M next (LA;)LA;", "@8", "ok @8 :3")
	runs(t, m, "M link (LA;LA;)V", "@8 @0", "ok 0 :4")
	runs(t, m, "M next (LA;)LA;", "@8", "ok @0 :3")
	runs(t, m, "M face (LB;LI;)LI;", "@7 @8", "ok @8 :6")
	if x, l, e := m.Object(7); x != typ("LB;") || fmt.Sprint(l) != fmt.Sprint(vals("5 @8 @0 @0 6 @8")) || e != api.OK {
		t.Errorf("%v, %v, %v", x, l, e)
	}
	for _, s := range []string{"put (LB;II)V 5 6", "a (LA;)I", "b (LB;)I", "link (LA;LA;)V @8", "link (LA;LA;)V @0", "next (LA;)LA;", "face (LB;LI;)LI; @8"} {
		w := strings.Fields(s)
		want := "thrown NilError :3"
		if len(w) == 2 {
			want = "thrown NilError :2"
		}
		runs(t, m, "M "+w[0]+" "+w[1], "@0 "+strings.Join(w[2:], " "), want)
	}
}

// P1402: a field of any objects takes arrays, too.
func TestFieldOfAnyObject(t *testing.T) {
	tells(t, "()LObject;", made("A")+"dup\nstore 0\nnumber 2\narray [LA;\nput A any LObject;\nload 0\nget A any LObject;\ngive", "", "ok @8 :14")
	tells(t, "()I", made("A")+"dup\nstore 0\nnumber 2\narray I\nput A row [I\nload 0\nget A row [I\nlength\ngive", "", "ok 2 :15")
}

// P1402: static fields: those of the class that has them, by whichever class they are named.
func TestStaticFields(t *testing.T) {
	m := begin(t, family, "class D A\n", "class M Object\n"+
		"does static swap (I)I\ngets A t I\nload 0\nputs A t I\ngive\n"+
		"does static low (I)I\ngets D t I\nload 0\nputs D t I\ngive\n"+
		"does static own (I)I\ngets B s I\nload 0\nputs B s I\ngive\n"+
		"does static obj (LA;)LA;\ngets A s LA;\nload 0\nputs A s LA;\ngive\n")
	runs(t, m, "M swap (I)I", "5", "ok 0 :4")
	runs(t, m, "M low (I)I", "6", "ok 5 :4")
	runs(t, m, "M swap (I)I", "7", "ok 6 :4")
	runs(t, m, "M own (I)I", "9", "ok 0 :4")
	runs(t, m, "M own (I)I", "8", "ok 9 :4")
	runs(t, m, "A made ()LA;", "", "ok @7 :7")
	runs(t, m, "M obj (LA;)LA;", "@7", "ok @0 :4")
	runs(t, m, "M obj (LA;)LA;", "@0", "ok @7 :4")
	runs(t, m, "M swap (I)I", "0", "ok 7 :4")
	runs(t, m, "M own (I)I", "0", "ok 8 :4")
}

// P1402: arrays, their lengths, and of what they are.
func TestArrays(t *testing.T) {
	for n, want := range map[string]string{"0": "ok 0 :4", "1": "ok 1 :4", "65535": "ok 65535 :4", "65536": "ok 65536 :4", "65537": "thrown BoundsError :2", "-1": "thrown BoundsError :2", "4294967296": "thrown BoundsError :2", "4294967297": "thrown BoundsError :2", "9223372036854775807": "thrown BoundsError :2", "-9223372036854775808": "thrown BoundsError :2"} {
		for _, of := range []string{"I", "LA;", "[I", "[[[[[[[LI;"} {
			tells(t, "(I)I", "load 0\narray "+of+"\nlength\ngive", n, want)
		}
	}
	tells(t, "()I", "nil\nlength\ngive", "", "thrown NilError :2")
	m := alone(t, "(I)[[LA;", "load 0\narray [LA;\ngive", family)
	runs(t, m, "M f (I)[[LA;", "3", "ok @7 :3")
	if x, l, e := m.Object(7); x != typ("[[LA;") || fmt.Sprint(l) != fmt.Sprint(vals("@0 @0 @0")) || e != api.OK {
		t.Errorf("%v, %v, %v", x, l, e)
	}
	if got := m.Stat(); got != (api.Stat{Objects: 7, Bytes: 96 + 40}) {
		t.Errorf("%v", got)
	}
}

// P1402: elements: what was put is got; beyond both ends; of nil.
func TestElements(t *testing.T) {
	far := []string{"-1", "3", "4294967296", "4294967297", "-4294967295", "9223372036854775807", "-9223372036854775808"}
	const numbers, objects = "number 3\narray I\nstore 1\n", "number 3\narray LA;\nstore 1\n"
	for _, i := range []string{"0", "1", "2"} {
		tells(t, "(I)I", numbers+"load 1\nload 0\nnumget\ngive", i, "ok 0 :7")
		tells(t, "(I)I", numbers+"load 1\nload 0\nnumber -5\nnumput\nload 1\nload 0\nnumget\ngive", i, "ok -5 :11")
		tells(t, "(I)LA;", objects+"load 1\nload 0\nrefget\ngive", i, "ok @0 :7")
		tells(t, "(I)LA;", objects+"load 1\nload 0\n"+made("B")+"refput\nload 1\nload 0\nrefget\ngive", i, "ok @8 :19")
	}
	for _, i := range far {
		tells(t, "(I)I", numbers+"load 1\nload 0\nnumget\ngive", i, "thrown BoundsError :6")
		tells(t, "(I)V", numbers+"load 1\nload 0\nload 0\nnumput\nreturn", i, "thrown BoundsError :7")
		tells(t, "(I)LA;", objects+"load 1\nload 0\nrefget\ngive", i, "thrown BoundsError :6")
		tells(t, "(I)V", objects+"load 1\nload 0\nnil\nrefput\nreturn", i, "thrown BoundsError :7")
	}
	for _, i := range append(far, "0") {
		tells(t, "(I)I", "nil\nload 0\nnumget\ngive", i, "thrown NilError :3")
		tells(t, "(I)V", "nil\nload 0\nload 0\nnumput\nreturn", i, "thrown NilError :4")
		tells(t, "(I)LA;", "nil\nload 0\nrefget\ngive", i, "thrown NilError :3")
		tells(t, "(I)V", "nil\nload 0\nnil\nrefput\nreturn", i, "thrown NilError :4")
	}
	for _, of := range []string{"I", "LA;"} {
		get := map[string]string{"I": "numget\ngive", "LA;": "refget\nisnil end\nend: number 0\ngive"}[of]
		tells(t, "(I)I", "number 0\narray "+of+"\nload 0\n"+get, "0", "thrown BoundsError :4")
	}
	// No other element is another one.
	tells(t, "()I", numbers+"load 1\nnumber 1\nnumber 7\nnumput\nload 1\nnumber 0\nnumget\nload 1\nnumber 2\nnumget\nadd\ngive", "", "ok 0 :15")
}

// P1402: what an array takes is told by its own type, whatever else its elements were known as.
func TestElementsByTheArraysOwnType(t *testing.T) {
	tells(t, "()I", "number 1\narray LB;\ndup\nnumber 0\n"+made("C")+"refput\nnumber 0\nrefget\ncall A who ()I\ngive", "", "ok 20 :23")
	// An array of B is no array of A: here it is an object, and what is thrown is told by its own class.
	tells(t, "()I", "number 1\narray LB;\ncast [LA;\nlength\ngive", "", "thrown CastError :3")
	tells(t, "(LObject;)I", "load 0\ncast [LA;\nnumber 0\nrefget\nisnil yes\nnumber 0\ngive\nyes: number 1\ngive", "@0", "thrown NilError :4")
}

// things are an object or array of each sort: their types, and what makes one.
var things = [][2]string{{"LA;", made("A")}, {"LB;", made("B")}, {"LC;", made("C")}, {"LF;", made("F")}, {"LY;", made("Y")}, {"LObject;", made("Object")}, {"[I", "number 1\narray I\n"}, {"[LA;", "number 1\narray LA;\n"}, {"[[LA;", "number 1\narray [LA;\n"}}

// P1402: casts and questions: of classes, interfaces, arrays, nil.
func TestCastsAndQuestions(t *testing.T) {
	const same, is = "dup\ncast %s\nsame yes\nnumber 0\ngive\nyes: number 1\ngive", "is %s\ngive"
	for to, l := range map[string]string{
		"LA;": "LA; LB; LC;", "LB;": "LB; LC;", "LC;": "LC;", "LE;": "LF;", "LF;": "LF;", "LI;": "LA; LB; LC;", "LJ;": "LB; LC;", "LX;": "LY;", "LY;": "LY;",
		"LThrowable;": "LY;", "LDivError;": "", "[I": "[I", "[LA;": "[LA;", "[LB;": "", "[LObject;": "", "[[LA;": "[[LA;", "[[I": "", "[LI;": "",
		"LObject;": "LA; LB; LC; LF; LY; [I [LA; [[LA; LObject;",
	} {
		for _, x := range things {
			below := strings.Contains(" "+l+" ", " "+x[0]+" ")
			m := begin(t, family, "class M Object\ndoes static made ()LObject;\n"+x[1]+"give\n"+
				"does static same (LObject;)I\nload 0\n"+fmt.Sprintf(same, to)+"\ndoes static is (LObject;)I\nload 0\n"+fmt.Sprintf(is, to))
			if r := run(m, 99, "M made ()LObject;", ""); r.Err != api.OK || r.Value != obj(7) {
				t.Fatal(x, resText(r))
			}
			if below {
				runs(t, m, "M same (LObject;)I", "@7", "ok 1 :6")
				runs(t, m, "M is (LObject;)I", "@7", "ok 1 :3")
			} else {
				runs(t, m, "M same (LObject;)I", "@7", "thrown CastError :3")
				runs(t, m, "M is (LObject;)I", "@7", "ok 0 :3")
			}
			runs(t, m, "M same (LObject;)I", "@0", "ok 1 :6")
			runs(t, m, "M is (LObject;)I", "@0", "ok 0 :3")
		}
	}
	tells(t, "(LObject;)I", "load 0\nis LThrowable;\ngive", "@4", "ok 1 :3")
	tells(t, "(LObject;)I", "load 0\nis LDivError;\ngive", "@4", "ok 1 :3")
	tells(t, "(LObject;)I", "load 0\nis LX;\ngive", "@4", "ok 0 :3")
	tells(t, "(LObject;)LDivError;", "load 0\ncast LDivError;\ngive", "@4", "ok @4 :3")
	tells(t, "(LObject;)LDivError;", "load 0\ncast LDivError;\ngive", "@3", "thrown CastError :2")
}
