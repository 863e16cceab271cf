package slow_test

import (
	"fmt"
	"math"
	"math/rand"
	"slices"
	"strings"
	"testing"

	"keystone/api"
	"keystone/hier"
	"keystone/slow"
)

// one is one of some.
func one[T any](r *rand.Rand, l ...T) T { return l[r.Intn(len(l))] }

// junk makes any calls at all of a machine.
func junk(t *testing.T, r *rand.Rand, m *slow.Machine) {
	t.Helper()
	names := []string{"A", "B", "G", "I", "E", "None", "", "Object", "<init>", "own", "two", "mixed", "none", "s", "t", "\xff a", strings.Repeat("x", 100)}
	sigs := []api.Sig{{}, {Void: true}, sig("(II)I"), sig("(LB;)I"), sig("(ILA;LI;[ILObject;)I"), {Params: make([]api.Type, 100)}, {Void: true, Result: api.Type{Dims: 3}}, {Result: api.Type{Dims: math.MinInt, Name: "\x00"}}}
	numbers := []int64{math.MinInt64, -1, 0, 1, 2, 6, 7, 8, 9, 10, 11, 99, 1 << 24, 1<<24 + 1, 1 << 40, math.MaxInt64}
	for range 60 {
		g := one(r, sigs...)
		var args []api.Value
		for range r.Intn(7) {
			args = append(args, api.Value{Ref: r.Intn(2) == 0, N: one(r, numbers...)})
		}
		res := m.Run(int(one(r, numbers...)), one(r, names...), one(r, names...), g, args...)
		if res.Err != api.OK && res.Value != (api.Value{}) || res.Err != api.ErrThrown && res.Thrown != "" {
			t.Fatalf("%v", res)
		}
		if v, e := m.Static(one(r, names...), one(r, names...)); e != api.OK && v != (api.Value{}) {
			t.Fatalf("%v, %v", v, e)
		}
		if x, l, e := m.Object(one(r, numbers...)); e != api.OK && (x != (api.Type{}) || len(l) > 0) {
			t.Fatalf("%v, %v, %v", x, l, e)
		}
	}
}

// P1, P4: whatever is handed in, every call ends, has nothing beside an error, and the world tells what it told.
func TestWhateverIsHandedIn(t *testing.T) {
	r := rand.New(rand.NewSource(1))
	for range 30 {
		w := world(t, family, many)
		before := fmt.Sprint(w.Names())
		for _, depth := range []int{1, 2, 256} {
			m := of(t, w, depth)
			junk(t, r, m)
			m.Run(99, "G", "new", sig("()LG;"))
			junk(t, r, m)
		}
		if fmt.Sprint(w.Names()) != before || !w.Linked() {
			t.Error("the world is another one")
		}
	}
}

// P8: of a world that is not linked New only tells its error, also where classes lack or come back to themselves.
func TestLooseWorlds(t *testing.T) {
	for _, text := range []string{"class A Lost\nhas static s LGone;\n", "class A B\nclass B A\n", "class A A\nhas x LA;\n"} {
		w := loose(t, text)
		refusesNew(t, w, 5, api.ErrLoose)
		if w.Linked() {
			t.Error(text)
		}
	}
}

// P2: args are as they were, their spare room too, and are not kept; so is the signature.
func TestArgsApart(t *testing.T) {
	m := begin(t, family, "class M Object\nhas static o LA;\ndoes static f (LA;I)I\nload 0\nputs M o LA;\nnumber 1\nstore 1\nnil\nstore 0\nload 1\ngive\n")
	runs(t, m, "A made ()LA;", "", "ok @7 :7")
	memory := vals("77 @7 5 88 99")
	had := slices.Clone(memory)
	args := memory[1:3]
	g := api.Sig{Params: make([]api.Type, 2, 5)}
	g.Params[0] = typ("LA;")
	if r := m.Run(99, "M", "f", g, args...); resText(r) != "ok 1 :8" {
		t.Error(resText(r))
	}
	if !slices.Equal(memory, had) || !slices.Equal(g.Params[:5], []api.Type{typ("LA;"), {}, {}, {}, {}}) {
		t.Errorf("%v, %v", memory, g)
	}
	for i := range memory {
		memory[i] = api.Value{Ref: true, N: 1}
	}
	g.Params[0] = typ("LB;")
	if v, e := m.Static("M", "o"); v != obj(7) || e != api.OK {
		t.Errorf("%v, %v", v, e)
	}
	runs(t, m, "M f (LA;I)I", "@7 5", "ok 1 :8")
}

// P2: what was told may be written over and grown; what is told again is as it was.
func TestAnswersApart(t *testing.T) {
	m := begin(t, family, "class M Object\ndoes static f ()V\nnumber 1\nprint\nnumber 2\nprint\nnumber 3\nprint\nreturn\ndoes static row ()[I\nnumber 3\narray I\ngive\n")
	runs(t, m, "M row ()[I", "", "ok @7 :3")
	first, second := run(m, 99, "M f ()V", ""), run(m, 99, "M f ()V", "")
	_, l, _ := m.Object(7)
	_, again, _ := m.Object(7)
	numbers := first.Out[:cap(first.Out)]
	for i := range numbers {
		numbers[i] = -5
	}
	first.Out = append(first.Out, 6, 7, 8, 9)
	slots := l[:cap(l)]
	for i := range slots {
		slots[i] = obj(99)
	}
	l = append(l, obj(1), obj(2))
	third := run(m, 99, "M f ()V", "")
	for _, r := range []api.Result{second, third} {
		if !slices.Equal(r.Out, []int64{1, 2, 3}) {
			t.Errorf("%v", r.Out)
		}
	}
	_, now, _ := m.Object(7)
	for _, x := range [][]api.Value{again, now} {
		if !slices.Equal(x, vals("0 0 0")) || len(l) != 5 || len(first.Out) != 7 {
			t.Errorf("%v", x)
		}
	}
}

// P2: no list and an empty one are the same.
func TestNoArgs(t *testing.T) {
	m := begin(t, family)
	for _, args := range [][]api.Value{nil, {}, make([]api.Value, 0, 5)} {
		for _, params := range [][]api.Type{nil, {}, make([]api.Type, 0, 5)} {
			if r := m.Run(99, "A", "made", api.Sig{Params: params, Result: typ("LA;")}, args...); r.Err != api.OK || r.Steps != 7 {
				t.Error(resText(r))
			}
		}
	}
}

// P7: two machines of one world have nothing in common.
func TestTwoMachines(t *testing.T) {
	w := world(t, family, "class M Object\ndoes static f (I)I\ngets A t I\nload 0\nputs A t I\ngive\ndoes static s ()LA;\ngets A s LA;\n"+made("A")+"puts A s LA;\ngive\n")
	a, b := of(t, w, 5), of(t, w, 9)
	runs(t, a, "M f (I)I", "3", "ok 0 :4")
	runs(t, b, "M f (I)I", "4", "ok 0 :4")
	runs(t, a, "M f (I)I", "5", "ok 3 :4")
	runs(t, b, "M f (I)I", "6", "ok 4 :4")
	runs(t, a, "M s ()LA;", "", "ok @0 :9")
	runs(t, a, "M s ()LA;", "", "ok @7 :9")
	if got := b.Stat(); got != (api.Stat{Objects: 6, Bytes: 96}) {
		t.Errorf("%v", got)
	}
	if _, _, e := b.Object(7); e != api.ErrAddr {
		t.Error(e)
	}
	runs(t, b, "A who ()I", "@7", "args")
	runs(t, b, "M s ()LA;", "", "ok @0 :9")
	if v, e := a.Static("A", "s"); v != obj(8) || e != api.OK {
		t.Errorf("%v, %v", v, e)
	}
}

// P7: what was handed in to make the world, and what is tried with it later, changes nothing.
func TestWorldLater(t *testing.T) {
	mod := module(family + "class M Object\ndoes static f ()I\nnumber 5\ngive\n")
	w := hier.New()
	if e := w.Add(mod); e != api.OK {
		t.Fatal(e)
	}
	if _, e := w.Link(); e != api.OK {
		t.Fatal(e)
	}
	m := of(t, w, 5)
	for i := range mod.Pool {
		mod.Pool[i] = api.Entry{Kind: api.CNumber, N: 99}
	}
	for _, c := range mod.Classes {
		for _, f := range c.Methods {
			clear(f.Code)
		}
	}
	if e := w.Add(module("class Z Object\n")); e != api.ErrLinked {
		t.Fatal(e)
	}
	if _, e := w.Link(); e != api.ErrLinked {
		t.Fatal(e)
	}
	runs(t, m, "M f ()I", "", "ok 5 :2")
	runs(t, m, "A made ()LA;", "", "ok @7 :7")
	runs(t, m, "Z f ()I", "", "none")
	c, l, _ := w.Class("A")
	clear(l)
	for _, f := range c.Methods {
		clear(f.Code)
	}
	runs(t, of(t, w, 5), "A made ()LA;", "", "ok @7 :7")
}

// P3: the same calls in the same order answer the same; whatever was asked between, and however the modules came.
func TestSameAgain(t *testing.T) {
	a, b, c := ahead(t), ahead(t), of(t, world(t, many, family), 16)
	for _, s := range []string{"new ()LG;", "row (I)[I", "who ()LF;", "b ()LB;"} {
		args := ""
		if strings.HasPrefix(s, "row") {
			args = "2"
		}
		run(c, 99, "G "+s, args)
	}
	r := rand.New(rand.NewSource(3))
	for range 300 {
		method := one(r, "G two (II)I", "G mixed (ILA;LI;[ILObject;)I", "G own (LB;)I", "G none ()I", "A made ()LA;", "A who ()I", "B j (I)I", "E e ()I")
		var args []string
		for range r.Intn(6) {
			args = append(args, one(r, "1", "-7", "@0", "@7", "@10", "@9", "@8"))
		}
		fuel := r.Intn(12)
		want := resText(run(a, fuel, method, strings.Join(args, " ")))
		for _, m := range []*slow.Machine{b, c} {
			if got := resText(run(m, fuel, method, strings.Join(args, " "))); got != want {
				t.Fatalf("%s of %v: %s, %s", method, args, got, want)
			}
			stateOf(m)
		}
	}
	if stateOf(a) != stateOf(b) || stateOf(a) != stateOf(c) {
		t.Errorf("%s\n%s\n%s", stateOf(a), stateOf(b), stateOf(c))
	}
}
