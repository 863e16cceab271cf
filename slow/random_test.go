package slow_test

import (
	"fmt"
	"math/rand"
	"slices"
	"strings"
	"testing"

	"keystone/api"
	"keystone/frames"
	"keystone/hier"
	"keystone/instr"
	"keystone/pool"
	"keystone/step"
	"keystone/verify"
)

// headings are those of the methods of M, below B, that are made at random; dull has code for each that does little.
var headings = []string{"static f (ILA;)I", "static g (LB;LX;I)LA;", "h (I)I", "<init> (I)V", "<init> (LX;)V", "static k ([ILI;[LA;)LX;", "static v (I)V", "who ()I", "j (I)I", "static m (I)LM;"}

var dull = []string{"number 1\ngive", "nil\ngive", "load 1\ngive", "load 0\ninit B <init> ()V\nreturn", "load 0\ninit B <init> ()V\nload 1\nthrow", "nil\ngive", "return", "number 3\ngive", "load 1\ngive", "new M\ndup\nload 0\ninit M <init> (I)V\ngive"}

// lines are instructions that may stand in such methods; jumps' places come later.
var lines = strings.Split(`nop
number 0
number 1
number 2
number 3
number -1
nil
load 0
load 0
load 1
load 1
load 2
load 3
store 0
store 1
store 2
store 2
store 3
pop
dup
dup
swap
add
sub
mul
div
rem
neg
and
or
xor
shl
shr
print
print
jump
jump
zero
zero
minus
less
less
isnil
isnil
same
new A
new B
new M
new X
new DivError
new E
get A x I
get A next LA;
get A any LObject;
get B y LI;
put A x I
put A next LA;
put A any LObject;
put B y LI;
gets A s LA;
puts A s LA;
gets A t I
puts A t I
gets M q LX;
puts M q LX;
array I
array LA;
numget
numput
refget
refput
length
cast LB;
cast LM;
cast LX;
cast LThrowable;
cast [LA;
is LB;
is LX;
call A who ()I
call B j (I)I
face I i ()I
face J j (I)I
static M f (ILA;)I
static M g (LB;LX;I)LA;
call M h (I)I
static M k ([ILI;[LA;)LX;
static M v (I)V
static M m (I)LM;
static A made ()LA;
init A <init> ()V
init B <init> ()V
init M <init> (I)V
init M <init> (LX;)V
init X <init> ()V
init DivError <init> ()V
init Throwable <init> ()V
return
give
give
throw
throw`, "\n")

// makers have a method for an object of each sort.
var makers = "class N Object\ndoes static a ()V\n" + made("A") + "pop\nreturn\ndoes static b ()V\n" + made("B") + "puts A s LA;\nreturn\ndoes static c ()V\n" + made("C") + "pop\nreturn\ndoes static x ()V\n" + made("X") + "pop\nreturn\ndoes static y ()V\n" + made("Y") + "pop\nreturn\n" +
	"does static n ()V\nnumber 2\narray I\npop\nreturn\ndoes static r ()V\nnumber 3\narray LA;\npop\nreturn\n"

// maker makes methods at random: most of what they do can be done in a frame that may come there.
type maker struct {
	r    *rand.Rand
	k    *book
	base *hier.World // M's methods there have the headings
	all  []api.Instr
}

func newMaker(t *testing.T, seed int64) *maker {
	x := &maker{r: rand.New(rand.NewSource(seed)), k: &book{b: pool.New()}}
	for _, s := range lines {
		word, rest, _ := strings.Cut(s, " ")
		i := x.k.instr(word, rest, nil)
		i.Size = instr.Size(i.Op)
		x.all = append(x.all, i)
	}
	for _, s := range dull {
		x.k.code(strings.Split(s, "\n"))
	}
	x.base = x.world(t, x.dull)
	return x
}

// dull is the method of a heading that does little.
func (x *maker) dull(n int) api.Method {
	m := heading(append(strings.Fields(headings[n]), "4", "5"))
	m.Code, _ = x.k.code(strings.Split(dull[n], "\n"))
	return m
}

// world has as many methods of M as there are headings.
func (x *maker) world(t testing.TB, method func(n int) api.Method) *hier.World {
	t.Helper()
	c := api.Class{Name: "M", Super: "B", Fields: []api.Field{{Name: "z"}, {Flags: api.FStatic, Name: "q", Type: typ("LX;")}}}
	for n := range headings {
		c.Methods = append(c.Methods, method(n))
	}
	w := hier.New()
	for _, m := range []api.Module{module(family), module(makers), {Pool: x.k.b.Pool(), Classes: []api.Class{c}}} {
		if e := w.Add(m); e != api.OK {
			t.Fatal(e)
		}
	}
	if s, e := w.Link(); e != api.OK {
		t.Fatal(s, e)
	}
	return w
}

// verified is a world of methods each of which is verified; those that are refused do little.
func (x *maker) verified(t *testing.T, size int) (*hier.World, int) {
	t.Helper()
	var l []api.Method
	for n := range headings {
		l = append(l, x.made(n, size))
	}
	w := x.world(t, func(n int) api.Method { return l[n] })
	lively := 0
	for n := range headings {
		if _, e := verify.Method(w, "M", n); e == api.OK {
			lively++
		} else {
			l[n] = x.dull(n)
		}
	}
	w = x.world(t, func(n int) api.Method { return l[n] })
	if class, n, e := verify.All(w); e != api.OK {
		t.Fatal(class, n, e)
	}
	return w, lively
}

// made is a method with so many instructions: those that are done in a row, then jumps and handlers led where they may lead.
func (x *maker) made(n, size int) api.Method {
	m := x.dull(n)
	f, _ := frames.Entry(x.base, "M", n)
	ahead := []api.Frame{f}
	var l []api.Instr
	var begin []int // where handlers may begin
	at := 0
	for len(l) < size {
		i, out := x.some(n, at, f)
		l = append(l, i)
		at += i.Size
		f = out
		if next := instr.Next(i); len(next) == 0 || i.Op == api.IJump {
			f = ahead[x.r.Intn(len(ahead))]
			if x.r.Intn(2) == 0 {
				f = frames.Catch(ahead[0], one(x.r, "X", "Throwable", "DivError"))
				begin = append(begin, len(l))
			}
		}
		ahead = append(ahead, f)
	}
	if x.r.Intn(4) == 0 {
		l[size-1] = api.Instr{At: l[size-1].At, Op: api.IJump, Size: 3}
	}
	x.lead(l, ahead)
	m.Code, _ = instr.Encode(l...)
	m.Handlers = x.handlers(l, begin)
	return m
}

// some is an instruction, most times one that can be done, and the frame behind it.
func (x *maker) some(n, at int, f api.Frame) (api.Instr, api.Frame) {
	for {
		i := one(x.r, x.all...)
		i.At = at
		if out, e := step.Step(x.base, "M", n, i, f); e == api.OK {
			return i, out
		}
		if x.r.Intn(300) == 0 {
			return i, f
		}
	}
}

func jumps(op int) bool { return op >= api.IJump && op <= api.ISame }

// lead fills in where jumps go to, most times where the depth is the same.
func (x *maker) lead(l []api.Instr, ahead []api.Frame) {
	for n, i := range l {
		if !jumps(i.Op) {
			continue
		}
		depth := len(ahead[n+1].Stack)
		if i.Op == api.IJump {
			depth = len(ahead[n].Stack)
		}
		for {
			to := x.r.Intn(len(l))
			if to <= n && n < len(l)-1 && x.r.Intn(4) > 0 {
				continue // forth, most times, so that most runs end
			}
			if len(ahead[to].Stack) == depth || x.r.Intn(50) == 0 {
				l[n].N = l[to].At
				break
			}
		}
	}
}

func (x *maker) handlers(l []api.Instr, begin []int) []api.Handler {
	var h []api.Handler
	for _, b := range append(begin, x.r.Intn(8*len(l))) {
		if b >= len(l) || x.r.Intn(4) == 0 {
			continue
		}
		from := x.r.Intn(len(l))
		to := from + 1 + x.r.Intn(len(l)-from)
		end := l[len(l)-1].At + l[len(l)-1].Size
		if to < len(l) {
			end = l[to].At
		}
		h = append(h, api.Handler{From: l[from].At, To: end, At: l[b].At, Class: one(x.r, "X", "Y", "Throwable", "DivError", "NilError", "Throwable")})
	}
	return h
}

// call is one from outside.
type call struct {
	fuel        int
	class, name string
	g           api.Sig
	args        []api.Value
}

func (c call) of(m runner) api.Result { return m.Run(c.fuel, c.class, c.name, c.g, c.args...) }

// call is of one of M's methods or another one, its args such as fit, most times.
func (x *maker) call(m teller) call {
	w := strings.Fields(one(x.r, append(headings, "static made ()LA;")...))
	c := call{fuel: one(x.r, 300, 300, 300, 300, 40, x.r.Intn(40)), class: "M", g: sig(w[len(w)-1]), name: w[len(w)-2]}
	if c.name == "<init>" {
		c.name, c.g = "m", sig("(I)LM;")
	}
	if c.name == "made" {
		c.class = "A"
	}
	if len(w) == 2 && w[0] != "<init>" {
		c.class = map[string]string{"h": "M", "who": "A", "j": "B"}[c.name]
		c.args = append(c.args, x.value(m, typ("L"+c.class+";")))
	}
	for _, t := range c.g.Params {
		c.args = append(c.args, x.value(m, t))
	}
	return c
}

// value is one of a type, most times.
func (x *maker) value(m teller, t api.Type) api.Value {
	if x.r.Intn(30) == 0 {
		return api.Value{Ref: x.r.Intn(2) == 0, N: int64(x.r.Intn(20))}
	}
	if t == (api.Type{}) {
		return num(one[int64](x.r, 0, 1, 2, 3, -1, 7))
	}
	var fit []api.Value
	for ref := range int64(m.Stat().Objects) {
		own, _, _ := m.Object(ref + 1)
		if x.base.Sub(own, t) {
			fit = append(fit, obj(ref+1))
		}
	}
	if len(fit) == 0 || x.r.Intn(12) == 0 {
		return obj(0)
	}
	return one(x.r, fit...)
}

// picture is all that a machine of such a world holds.
func picture(m teller) string { return state(m, []string{"A", "B", "M"}, "s", "t", "q") }

// alike makes calls of a machine, and of the words of the chapter; both must answer alike and hold the same. It counts how they ended.
func (x *maker) alike(t *testing.T, w *hier.World, calls int, ended map[string]int) {
	t.Helper()
	depth := 2 + x.r.Intn(5)
	m, k := of(t, w, depth), newModel(w, depth)
	for _, s := range strings.Split("abcxynr", "") {
		runs(t, m, "N "+s+" ()V", "", resText(run(k, 100, "N "+s+" ()V", "")))
	}
	for range calls {
		c := x.call(k)
		got, want := c.of(m), c.of(k)
		if resText(got) != resText(want) || picture(m) != picture(k) {
			t.Fatalf("%v: %s, wanted %s\n%s\nwanted\n%s\n%s", c, resText(got), resText(want), picture(m), picture(k), codeOf(w))
		}
		ended[got.Err.Error()+" "+got.Thrown]++
	}
}

// codeOf is the code of M's methods.
func codeOf(w *hier.World) string {
	var b strings.Builder
	c, l, _ := w.Class("M")
	for _, f := range c.Methods {
		fmt.Fprintln(&b, f.Name, f.Sig, f.Handlers)
		code, _, _ := instr.All(f.Code)
		for _, i := range code {
			fmt.Fprintln(&b, i.At, instr.Name(i.Op), i.N)
		}
	}
	fmt.Fprintln(&b, l)
	return b.String()
}

// P1402, P1403: worlds that are not verified, beside the words of the chapter.
func TestAtRandom(t *testing.T) {
	x, ended := newMaker(t, 14), map[string]int{}
	for range 200 {
		size := 3 + x.r.Intn(25)
		w := x.world(t, func(n int) api.Method { return x.made(n, size) })
		x.alike(t, w, 12, ended)
	}
	often(t, ended, "ok ", "fuel ", "trap ", "args ", "thrown NilError", "thrown CastError", "thrown DepthError", "thrown BoundsError", "thrown DivError")
}

// often holds how often runs ended in some ways against what makes a sample worth while.
func often(t *testing.T, ended map[string]int, ways ...string) {
	t.Helper()
	for _, s := range ways {
		if ended[s] < 5 {
			t.Errorf("%s: only %d of %v", s, ended[s], ended)
		}
	}
}

// P1404, P1402: of worlds that are verified no run takes a trap.
func TestVerifiedAtRandom(t *testing.T) {
	x, ended, lively := newMaker(t, 1404), map[string]int{}, 0
	for range 200 {
		w, n := x.verified(t, 3+x.r.Intn(25))
		lively += n
		x.alike(t, w, 12, ended)
	}
	often(t, ended, "ok ", "fuel ", "args ", "thrown NilError", "thrown CastError", "thrown DepthError")
	if ended["trap "] > 0 || lively < 300 {
		t.Errorf("%d traps; %d methods that do much", ended["trap "], lively)
	}
}

// P1404: with more fuel a run that ended otherwise than by ErrFuel ends just so; one that did has done the first steps of the other one.
func TestMoreFuel(t *testing.T) {
	x := newMaker(t, 1405)
	longer := 0
	for range 100 {
		w, _ := x.verified(t, 3+x.r.Intn(25))
		for range 10 {
			a, b := of(t, w, 5), of(t, w, 5)
			c := x.call(a)
			c.fuel = x.r.Intn(30)
			less := c.of(a)
			c.fuel += x.r.Intn(500)
			more := c.of(b)
			if less.Err != api.ErrFuel {
				if resText(less) != resText(more) || picture(a) != picture(b) {
					t.Fatalf("%v: %s, %s\n%s", c, resText(less), resText(more), codeOf(w))
				}
				continue
			}
			longer++
			if more.Steps < less.Steps || len(more.Out) < len(less.Out) || !slices.Equal(less.Out, more.Out[:len(less.Out)]) || a.Stat().Objects > b.Stat().Objects {
				t.Fatalf("%v: %s, %s\n%s", c, resText(less), resText(more), codeOf(w))
			}
		}
	}
	if longer < 100 {
		t.Errorf("only %d", longer)
	}
}
