package slow_test

import (
	"math"
	"strings"
	"testing"

	"keystone/api"
	"keystone/slow"
)

// many has methods of all kinds of Params.
var many = "class G A\nhas static s I\n" +
	"does static none ()I\nnumber 5\nputs G s I\nnumber 1\nprint\nnumber 4\ngive\n" +
	"does static two (II)I\nload 0\nload 1\nsub\ngive\n" +
	"does static mixed (ILA;LI;[ILObject;)I 1 5\nload 0\ngive\n" +
	"does own (LB;)I\nload 1\nisnil yes\nnumber 0\ngive\nyes: number 1\ngive\n" +
	"does static void ()V 0 0\nreturn\n" +
	plain("A") + "does <init> (I)V\nload 0\ninit A <init> ()V\nreturn\n" +
	"does static new ()LG;\n" + made("G") + "give\n" +
	"does static row (I)[I\nload 0\narray I\ngive\n" +
	"does static who ()LF;\n" + made("F") + "give\n" +
	"does static b ()LB;\n" + made("B") + "give\n"

// ahead is a machine in which 7 is a G, 8 a row of numbers, 9 a F, 10 a B.
func ahead(t testing.TB) *slow.Machine {
	t.Helper()
	m := begin(t, family, many)
	runs(t, m, "G new ()LG;", "", "ok @7 :10")
	runs(t, m, "G row (I)[I", "2", "ok @8 :3")
	runs(t, m, "G who ()LF;", "", "ok @9 :10")
	runs(t, m, "G b ()LB;", "", "ok @10 :10")
	return m
}

// stateOf is all that such a machine holds.
func stateOf(m teller) string {
	return state(m, strings.Fields("A B C E F G I J M N X Y Object"), strings.Fields("s t x next n a b c d e f g h i")...)
}

// refuses holds the error ahead of a run against what is wanted: nothing beside it, and nothing is done.
func refuses(t *testing.T, m *slow.Machine, fuel int, class, name string, g api.Sig, args []api.Value, want api.Errno) {
	t.Helper()
	before := stateOf(m)
	r := m.Run(fuel, class, name, g, args...)
	if resText(r) != want.Error() || r.Err != want {
		t.Errorf("Run(%d, %s, %s, %v, %v): %s; wanted %v", fuel, class, name, g, args, resText(r), want)
	}
	if after := stateOf(m); after != before {
		t.Errorf("Run(%d, %s, %s, %v, %v) changed\n%s into\n%s", fuel, class, name, g, args, before, after)
	}
}

// P1402: fuel.
func TestFuelAhead(t *testing.T) {
	m := ahead(t)
	for _, fuel := range []int{-1, 1<<24 + 1, math.MinInt, math.MaxInt, 1 << 32, 1 << 25} {
		refuses(t, m, fuel, "G", "none", sig("()I"), nil, api.ErrArg)
	}
	for fuel, want := range map[int]string{1 << 24: "ok 4 :6 [1]", 1<<24 - 1: "ok 4 :6 [1]", 0: "fuel :0", 1: "fuel :1"} {
		if got := resText(m.Run(fuel, "G", "none", sig("()I"))); got != want {
			t.Errorf("%d: %s, wanted %s", fuel, got, want)
		}
	}
}

// P1402: classes that are not there.
func TestNoClass(t *testing.T) {
	m := ahead(t)
	for _, class := range []string{"", "g", "G ", "H", "LG;", "[G", "\xff", strings.Repeat("G", 1000)} {
		refuses(t, m, 9, class, "none", sig("()I"), nil, api.ErrNone)
	}
}

// P1402: methods that are not there, interfaces, constructors.
func TestNoMethod(t *testing.T) {
	m := ahead(t)
	for _, s := range []string{"G nome ()I", "G none ()V", "G none (I)I", "G none ()LA;", "G two (I)I", "G two (III)I", "G own (LC;)I", "G own (LA;)I", "A none ()I", "Object none ()I", "Object i ()I", "I i ()I", "J i ()I", "J j (I)I", "I nome ()I", "A j (I)I", "DivError none ()I", "E f ()I"} {
		w := strings.Fields(s)
		refuses(t, m, 9, w[0], w[1], sig(w[2]), nil, api.ErrMember)
		refuses(t, m, 9, w[0], w[1], sig(w[2]), vals("@7 1"), api.ErrMember)
	}
	for _, class := range []string{"G", "A", "Object", "DivError", "I", "E", "X"} {
		refuses(t, m, 9, class, "<init>", sig("()V"), nil, api.ErrMember)
		refuses(t, m, 9, class, "<init>", sig("()V"), vals("@7"), api.ErrMember)
		refuses(t, m, 9, class, "", sig("()V"), nil, api.ErrMember)
	}
	refuses(t, m, 9, "G", "<init>", sig("(I)V"), vals("@7 1"), api.ErrMember)
	number := api.Type{}
	for _, g := range []api.Sig{{}, {Params: make([]api.Type, 17)}, {Params: []api.Type{{Dims: -1}}}, {Params: []api.Type{{Dims: 9}}}, {Params: []api.Type{{Name: "1"}}}, {Void: true, Result: api.Type{Dims: 1}}, {Void: true, Params: []api.Type{number}}, {Result: api.Type{Name: "\xff"}}} {
		refuses(t, m, 9, "G", "void", g, nil, api.ErrMember)
		refuses(t, m, 9, "G", "void", g, make([]api.Value, len(g.Params)), api.ErrMember)
	}
}

// P1402: how many args, of static methods and of others.
func TestManyArgs(t *testing.T) {
	m := ahead(t)
	for _, s := range []string{"", "1", "1 2 3", "@0 1 2", "1 2 3 4"} {
		refuses(t, m, 9, "G", "two", sig("(II)I"), vals(s), api.ErrArgs)
	}
	for _, s := range []string{"1", "@0", "@7"} {
		refuses(t, m, 9, "G", "none", sig("()I"), vals(s), api.ErrArgs)
		refuses(t, m, 9, "G", "void", sig("()V"), vals(s), api.ErrArgs)
	}
	for _, s := range []string{"", "@7", "@7 @0 @0", "@0", "@0 @7 @0"} {
		refuses(t, m, 9, "G", "own", sig("(LB;)I"), vals(s), api.ErrArgs)
	}
	refuses(t, m, 9, "G", "who", sig("()I"), nil, api.ErrArgs)
	refuses(t, m, 9, "G", "none", sig("()I"), make([]api.Value, 100000), api.ErrArgs)
	runs(t, m, "G two (II)I", "1 2", "ok -1 :4")
	runs(t, m, "G void ()V", "", "ok 0 :1")
	runs(t, m, "G own (LB;)I", "@7 @0", "ok 1 :4")
	runs(t, m, "G own (LB;)I", "@7 @10", "ok 0 :4")
	runs(t, m, "G who ()I", "@7", "ok 10 :2")
}

// P1402: args that do not fit where they stand.
func TestWrongArgs(t *testing.T) {
	m := ahead(t)
	const mixed = "(ILA;LI;[ILObject;)I"
	for _, s := range []string{"3 @7 @7 @8 @8", "3 @0 @0 @0 @0", "-1 @10 @10 @8 @1", "9223372036854775807 @7 @10 @0 @9", "3 @7 @7 @8 @6"} {
		runs(t, m, "G mixed "+mixed, s, "ok "+strings.Fields(s)[0]+" :2")
	}
	for _, s := range []string{
		"@0 @7 @7 @8 @8", "@7 @7 @7 @8 @8", // an object for a number
		"3 0 @7 @8 @8", "3 7 @7 @8 @8", "3 @7 7 @8 @8", "3 @7 @7 8 @8", "3 @7 @7 @8 8", "3 @7 @7 @8 0", // a number for an object
		"3 @11 @7 @8 @8", "3 @7 @-1 @8 @8", "3 @7 @7 @8 @11", "3 @7 @7 @8 @4294967297", "3 @7 @7 @8 @-9223372036854775808", // none
		"3 @9 @7 @8 @8", "3 @1 @7 @8 @8", "3 @8 @7 @8 @8", "3 @7 @9 @8 @8", "3 @7 @8 @8 @8", "3 @7 @7 @7 @8", // of another type
	} {
		refuses(t, m, 9, "G", "mixed", sig(mixed), vals(s), api.ErrArgs)
	}
	for _, s := range []string{"@0 @0", "0 @0", "7 @0", "@10 @0", "@8 @0", "@1 @0", "@11 @0", "@-1 @0", "@7 @7", "@7 0", "@7 @11"} {
		refuses(t, m, 9, "G", "own", sig("(LB;)I"), vals(s), api.ErrArgs)
	}
	for _, s := range []string{"@0", "@8", "@9", "@1", "0", "@11"} {
		refuses(t, m, 9, "A", "who", sig("()I"), vals(s), api.ErrArgs)
	}
	runs(t, m, "A who ()I", "@7", "ok 10 :2")
	runs(t, m, "A who ()I", "@10", "ok 20 :2")
	refuses(t, m, 9, "B", "who", sig("()I"), vals("@7"), api.ErrArgs)
	refuses(t, m, 9, "E", "e", sig("()I"), vals("@0"), api.ErrArgs)
	refuses(t, m, 9, "E", "e", sig("()I"), vals("@7"), api.ErrArgs)
	runs(t, m, "E e ()I", "@9", "ok 7 :2")
}

// P1402, P6: several errors at once: the first one in the chapter's order.
func TestOrderOfErrors(t *testing.T) {
	m := ahead(t)
	for _, fuel := range []int{-1, 9} {
		for _, class := range []string{"None", "I", "G"} {
			for _, name := range []string{"nome", "<init>", "own"} {
				for _, g := range []api.Sig{{Void: true}, sig("(LB;)I"), {Result: api.Type{Dims: -1}}} {
					for _, args := range [][]api.Value{nil, vals("7"), vals("@0 @0"), vals("@7 @99")} {
						want := api.ErrArgs
						switch {
						case fuel < 0:
							want = api.ErrArg
						case class == "None":
							want = api.ErrNone
						case class == "I" || name != "own" || g.Void || g.Result.Dims < 0:
							want = api.ErrMember
						}
						refuses(t, m, fuel, class, name, g, args, want)
					}
				}
			}
		}
	}
	// Ahead of the first step, whatever the fuel.
	refuses(t, m, 0, "G", "two", sig("(II)I"), nil, api.ErrArgs)
	refuses(t, m, 1<<24+1, "G", "two", sig("(II)I"), nil, api.ErrArg)
}
