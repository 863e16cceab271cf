package verify_test

import (
	"math"
	"slices"
	"strconv"
	"testing"

	"keystone/api"
	"keystone/frames"
	"keystone/hier"
	"keystone/verify"
)

// P1, P8: whatever is handed in, of worlds that are linked and of such as are not, every call ends, tells nothing beside an error, and leaves the world as it is.
func TestWhateverIsHandedIn(t *testing.T) {
	x := newMaker(t, 1)
	names := []string{"M", "M", "M", "A", "E", "I", "None", "", "Object", "\xff a"}
	numbers := []int{math.MinInt, -1, 0, 1, 2, 3, 4, 5, 6, 8, 9, math.MaxInt}
	for round := range 200 {
		k := begin().family()
		if round%2 == 0 {
			// Here classes are named that are not there.
			k.class("M Nowhere", k.method("static f (LGone;)LGone;", 2, 2, "a: load 0\nisnil b\nnil\nstore 0\nb: load 0\ngive\nc: throw\ncatch a c c Lost"), k.method("g ()V", 1, 1, "a: new Gone\nstore 0\njump a"))
		}
		for _, w := range []*hier.World{x.world(t, func(n int) api.Method { return x.made(n, 2+x.r.Intn(9)) }), loose(t, k.module()), hier.New(), loose(t, looseOf(x))} {
			before, linked := w.Names(), w.Linked()
			for range 6 {
				class, n := names[x.r.Intn(len(names))], numbers[x.r.Intn(len(numbers))]
				if l, e := verify.Method(w, class, n); e != api.OK && len(l) > 0 {
					t.Fatalf("%v beside %v", l, e)
				}
				if got := crew(w, n); got.err == api.OK && got != (told{}) {
					t.Fatalf("%v", got)
				}
			}
			if got := all(w); got.err == api.OK && got != (told{}) {
				t.Fatalf("%v", got)
			}
			if !slices.Equal(before, w.Names()) || linked != w.Linked() {
				t.Error("the world is another one")
			}
		}
	}
}

// looseOf is a module with methods of M, made at random.
func looseOf(x *maker) api.Module {
	m := x.k.module()
	c := api.Class{Name: "M", Super: "A"}
	for n := range headings {
		c.Methods = append(c.Methods, x.made(n, 2+x.r.Intn(9)))
	}
	m.Classes = append(slices.Clone(m.Classes), c)
	return m
}

// ink is written over what was told: nothing else is like it.
var ink = api.VType{Kind: 78}

// lists are all that frames are made of.
func lists(l []api.Frame) []*[]api.VType {
	var rows []*[]api.VType
	for i := range l {
		rows = append(rows, &l[i].Locals, &l[i].Stack)
	}
	return rows
}

// apart writes over each list of frames, and grows it into its spare room: no other one may change.
func apart(t *testing.T, l []api.Frame) {
	t.Helper()
	rows := lists(l)
	for i, x := range rows {
		full := (*x)[:cap(*x)]
		for j := range full {
			full[j] = ink
		}
		*x = append(*x, ink, ink)
		for _, y := range rows[i+1:] {
			if slices.Contains(*y, ink) || slices.Contains((*y)[:cap(*y)], ink) {
				t.Fatalf("list %d shares memory with another one", i)
			}
		}
	}
	spare := l[:cap(l)]
	for i := range spare {
		spare[i] = api.Frame{Self: ink}
	}
}

// P2: frames that are told may be written over and grown by whoever has them: no two of their lists share memory, and what is told again, or was told before, is as it was.
func TestFramesAreApart(t *testing.T) {
	x := newMaker(t, 2)
	done := 0
	for range 200 {
		size := 2 + x.r.Intn(14)
		w := x.world(t, func(n int) api.Method { return x.made(n, size) })
		for n := range headings {
			before, e := verify.Method(w, "M", n)
			got, _ := verify.Method(w, "M", n)
			want := texts(before)
			apart(t, got)
			if e == api.OK {
				done++
			}
			again, err := verify.Method(w, "M", n)
			if texts(before) != want || texts(again) != want || e != err {
				t.Fatalf("once what was told was written over:\n%s, %v\n%s; wanted\n%s", texts(before), err, texts(again), want)
			}
		}
	}
	if done < 100 {
		t.Errorf("only %d", done)
	}
	// One frame that many ways come to, and many that one leads to.
	w := alone(t, "static f (ILA;LA;)V", 3, 3, "a: load 1\nload 2\nload 0\nzero b\nb: load 0\nzero c\nc: pop\npop\nreturn\nx: pop\nreturn\ny: pop\nreturn\ncatch a x x X\ncatch a x y Y")
	l, e := methodOf(w)
	if e != api.OK || !frames.Same(l[0], of("top | num LA; LA; |")) {
		t.Fatalf("%v, %s", e, texts(l))
	}
	apart(t, l)
}

// P2: an empty list and none are the same: frames without Locals, without Stack.
func TestEmptyLists(t *testing.T) {
	k := begin()
	m := k.method("static f ()V", 0, 0, "return\nnop")
	m.Handlers = []api.Handler{}
	k.class("M Object", m)
	w := linked(t, k.module())
	l, e := methodOf(w)
	if e != api.OK || len(l) != 2 || len(l[0].Locals) != 0 || len(l[0].Stack) != 0 || l[0].Self != top || !frames.Same(l[1], api.Frame{}) {
		t.Errorf("%v, %v", l, e)
	}
}

// P3, T9: the same again, whatever was asked in between; in a world whose modules and classes came in another order, too.
func TestSameAgain(t *testing.T) {
	x := newMaker(t, 4)
	for range 150 {
		m := looseOf(x)
		family, rest := m, m
		family.Classes, rest.Classes = m.Classes[:5], slices.Clone(m.Classes[5:])
		slices.Reverse(rest.Classes)
		w, other := linked(t, m), linked(t, rest, family)
		for n := range headings {
			a, e := verify.Method(w, "M", n)
			verify.Crew(w, 1+n)
			b, err := verify.Method(other, "M", n)
			verify.All(w)
			c, again := verify.Method(w, "M", n)
			if e != err || e != again || texts(a) != texts(b) || texts(a) != texts(c) {
				t.Fatalf("%v\n%s\n%v\n%s\n%v\n%s", e, texts(a), err, texts(b), again, texts(c))
			}
		}
		if a, b := all(w), all(w); a != b {
			t.Fatalf("%v, %v", a, b)
		}
		for n := range 8 {
			if a, b := crew(w, n+1), all(w); a != b {
				t.Fatalf("%v, %v", a, b)
			}
		}
	}
}

// chain puts in classes one above the other, as many as there may be: K1 right below Object, K31 the last one.
func (k *book) chain() {
	super := "Object"
	for n := 1; n < api.MaxChain; n++ {
		name := "K" + strconv.Itoa(n)
		k.class(name + " " + super)
		super = name
	}
}

// Limits: a method with as many bytes, Locals, handlers as there may be, over a pool that is full, in which what is known rises from the last class of the longest chain on, class by class, local by local.
func TestTheLongestClimb(t *testing.T) {
	k := begin()
	k.chain()
	s := ""
	for n := range 31 {
		s += "gets H s" + strconv.Itoa(31-n) + " LK" + strconv.Itoa(31-n) + ";\nstore " + strconv.Itoa(n) + "\n"
	}
	for n := 31; n < 63; n++ {
		s += "load 0\nstore " + strconv.Itoa(n) + "\n"
	}
	s += "nil\nstore 63\nagain: "
	for n := 63; n > 0; n-- {
		s += "load " + strconv.Itoa(n-1) + "\nstore " + strconv.Itoa(n) + "\n"
	}
	s += "load 31\nstore 0\n"
	body := "from: " + s + "to: jump again\nat: pop\nreturn\n"
	for range api.MaxHandlers {
		body += "catch from to at X\n"
	}
	m := k.method("static f ()V", 1, 64, body)
	place := m.Handlers[0].To
	for len(m.Code) < api.MaxCode {
		m.Code = append(m.Code, api.INop)
	}
	fields := []api.Field{}
	for n := 1; n < api.MaxChain; n++ {
		fields = append(fields, api.Field{Flags: api.FStatic, Name: "s" + strconv.Itoa(n), Type: typ("LK" + strconv.Itoa(n) + ";")})
	}
	k.class("H Object")
	k.classes[len(k.classes)-1].Fields = fields
	k.class("X Throwable")
	k.class("M Object", m)
	for n := range int64(api.MaxPool) {
		k.b.Number(n)
	}
	if len(k.b.Pool()) != api.MaxPool || len(m.Code) != api.MaxCode {
		t.Fatalf("%d entries, %d bytes", len(k.b.Pool()), len(m.Code))
	}
	w := linked(t, k.module())
	l, e := methodOf(w)
	b := bodyOf(w, "M", 0)
	if e != api.OK || !b.typing(l) {
		t.Fatalf("%v, no typing:\n%s", e, texts(l))
	}
	jump, at := l[b.at(place)], l[b.at(place)+1]
	if !frames.Same(jump, api.Frame{Self: top, Locals: slices.Repeat(row("LK1;"), 64)}) {
		t.Errorf("at the end of a round: %s", text(jump))
	}
	if !frames.Same(at, api.Frame{Self: top, Locals: slices.Repeat(row("top"), 64), Stack: row("LX;")}) {
		t.Errorf("where the handlers begin: %s", text(at))
	}
}
