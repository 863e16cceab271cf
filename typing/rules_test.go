package typing_test

import (
	"math"
	"slices"
	"strconv"
	"strings"
	"testing"

	"keystone/api"
	"keystone/frames"
	"keystone/hier"
	"keystone/typing"
	"keystone/verify"
)

// junk is any frame at all.
func (x *maker) junk() api.Frame {
	all := slices.Concat(known, rightKnowledge(), wrongKnowledge())
	if x.r.Intn(3) > 0 {
		all = known
	}
	if x.r.Intn(4) == 0 {
		return api.Frame{}
	}
	return api.Frame{Self: some(x.r, all, 1)[0], Locals: some(x.r, all, x.r.Intn(5)), Stack: some(x.r, all, x.r.Intn(5))}
}

func (x *maker) junkRow(n int) []api.Frame {
	var l []api.Frame
	for range n {
		l = append(l, x.junk())
	}
	return l
}

// looseOf is a module with methods of M, made at random.
func looseOf(x *maker) api.Module {
	m := x.k.module()
	c := api.Class{Name: "M", Super: "A"}
	for n := range headings {
		c.Methods = append(c.Methods, x.made(n, 2+x.r.Intn(9)))
	}
	m.Classes = append(slices.Clone(m.Classes), c)
	return m
}

// P1, P8: whatever is handed in, of worlds that are linked and of such as are not, every call ends, tells nothing beside an error, and leaves the world as it is.
func TestWhateverIsHandedIn(t *testing.T) {
	x := newMaker(t, 1)
	names := []string{"M", "M", "M", "M", "A", "E", "I", "None", "", "Object", "\xff a"}
	numbers := []int{math.MinInt, -1, 0, 0, 1, 1, 2, 3, 4, 5, 6, 9, math.MaxInt}
	for round := range 150 {
		k := begin().family()
		if round%2 == 0 {
			// Here classes are named that are not there.
			k.class("M Nowhere", k.method("static f (LGone;)LGone;", 2, 2, "a: load 0\nisnil b\nnil\nstore 0\nb: load 0\ngive\nc: throw"), k.method("g ()V", 1, 1, "a: new Gone\nstore 0\njump a"), k.method("h ()V", 1, 1, "a: return\nb: throw\ncatch a b b Lost"))
		}
		for _, w := range []*hier.World{x.world(t, func(n int) api.Method { return x.made(n, 2+x.r.Intn(9)) }), loose(t, k.module()), hier.New(), loose(t, looseOf(x))} {
			before, linked := w.Names(), w.Linked()
			for range 12 {
				class, n := names[x.r.Intn(len(names))], numbers[x.r.Intn(len(numbers))]
				size := x.r.Intn(8)
				if c, _, there := w.Class(class); there && n >= 0 && n < len(c.Methods) && x.r.Intn(4) > 0 {
					size = len(bodyOf(w, class, n).code)
				}
				for _, l := range [][]api.Frame{x.junkRow(size), make([]api.Frame, size)} {
					if n, e := typing.Check(w, class, n, l); e == api.OK && n != 0 || n < 0 || n > 0 && n >= size {
						t.Fatalf("%d, %v", n, e)
					}
					if up, e := typing.Raise(w, class, n, l); e != api.OK && len(up) > 0 || e == api.OK && len(up) != size {
						t.Fatalf("%v, %v", up, e)
					}
					typing.Below(w, l, x.junkRow(size))
				}
			}
			if !slices.Equal(before, w.Names()) || linked != w.Linked() {
				t.Error("the world is another one")
			}
		}
	}
}

// ink is written over what was told, or handed in: nothing else is like it.
var ink = api.VType{Kind: 78}

// lists are all that frames are made of.
func lists(l []api.Frame) []*[]api.VType {
	var rows []*[]api.VType
	for i := range l {
		rows = append(rows, &l[i].Locals, &l[i].Stack)
	}
	return rows
}

// apart writes over each list of frames, and grows it into its spare room: no other one may change.
func apart(t *testing.T, l []api.Frame) {
	t.Helper()
	rows := lists(l)
	for i, x := range rows {
		full := (*x)[:cap(*x)]
		for j := range full {
			full[j] = ink
		}
		*x = append(*x, ink, ink)
		for _, y := range rows[i+1:] {
			if slices.Contains((*y)[:cap(*y)], ink) {
				t.Fatalf("list %d shares memory with another one", i)
			}
		}
	}
	spare := l[:cap(l)]
	for i := range spare {
		spare[i] = api.Frame{Self: ink}
	}
}

// chalk is what spare room is filled with.
var chalk = api.VType{Kind: 79}

// roomy are the same frames in lists with spare room, all of them and theirs.
func roomy(l []api.Frame) []api.Frame {
	room := func(row []api.VType) []api.VType {
		return append(append(make([]api.VType, 0, len(row)+3), row...), chalk, chalk, chalk)[:len(row)]
	}
	got := make([]api.Frame, 0, len(l)+2)
	for _, f := range l {
		got = append(got, api.Frame{Self: f.Self, Locals: room(f.Locals), Stack: room(f.Stack)})
	}
	return append(got, api.Frame{Self: chalk}, api.Frame{Self: chalk})[:len(l)]
}

// whole is all that is in frames, their spare room too.
func whole(l []api.Frame) string {
	var b strings.Builder
	for _, f := range l[:cap(l)] {
		b.WriteString(strconv.Itoa(len(f.Locals)) + word(f.Self) + words(f.Locals[:cap(f.Locals)]) + "|" + strconv.Itoa(len(f.Stack)) + words(f.Stack[:cap(f.Stack)]) + "\n")
	}
	return b.String()
}

// P2: frames that are told may be written over and grown by whoever has them: no two of their lists share memory, with each other or with what was handed in; what is told again, or was told before, is as it was. Frames that are handed in are not changed, and not kept: what becomes of them later changes nothing.
func TestFramesAreApart(t *testing.T) {
	x := newMaker(t, 2)
	done := 0
	x.each(t, 150, 12, func(w *hier.World, b body, least []api.Frame) {
		for _, l := range [][]api.Frame{x.someFrames(b, least), least, make([]api.Frame, len(b.code)), x.changed(x.someFrames(b, least))} {
			handed := roomy(l)
			inside := whole(handed)
			before, e := typing.Raise(w, "M", b.number, handed)
			got, _ := typing.Raise(w, "M", b.number, handed)
			n, err := typing.Check(w, "M", b.number, handed)
			typing.Below(w, handed, handed)
			want := texts(before)
			apart(t, got)
			if whole(handed) != inside {
				t.Fatalf("what was handed in is changed:\n%s\n%s", inside, whole(handed))
			}
			apart(t, handed)
			if e == api.OK {
				done++
			}
			again, e2 := typing.Raise(w, "M", b.number, l)
			n2, err2 := typing.Check(w, "M", b.number, l)
			if texts(before) != want || texts(again) != want || e != e2 || n != n2 || err != err2 {
				t.Fatalf("once all was written over:\n%s, %v\n%s; wanted\n%s", texts(before), e2, texts(again), want)
			}
		}
	})
	if done < 300 {
		t.Errorf("only %d", done)
	}
}

// P2: rows that stand in one list, and frames that share theirs, are as good as others; what is told shares nothing.
func TestFramesThatShareTheirLists(t *testing.T) {
	w := method{"static f (I)V", 2, 2, "a: nop\nnop\nreturn\nat: pop\nreturn\nend:\ncatch a end at X"}.world(t)
	row := slices.Repeat(row("top"), 4)
	f := api.Frame{Self: top, Locals: row[:2], Stack: row[2:2]}
	g := api.Frame{Self: top, Locals: row[1:3], Stack: row[3:]}
	l := []api.Frame{f, f, f, g, f}
	if got := check(w, l); got != (told{}) {
		t.Errorf("%v", got)
	}
	up, e := raise(w, l)
	if e != api.OK || texts(up) != texts(l) {
		t.Fatalf("%v, %s", e, texts(up))
	}
	apart(t, up)
	if slices.Contains(row, ink) {
		t.Error("what was handed in is written over")
	}
}

// P2: an empty list and none are the same, handed in and told.
func TestEmptyLists(t *testing.T) {
	w := method{"static f ()V", 1, 0, "return\na: jump a"}.world(t)
	empty := []api.VType{}
	for _, l := range [][]api.Frame{
		{{Self: top}, {}},
		{{Self: top, Locals: empty, Stack: empty}, {Locals: empty, Stack: empty}},
		{{Self: top, Stack: make([]api.VType, 0, 5)}, {Locals: make([]api.VType, 0, 5)}},
	} {
		if got := check(w, l); got != (told{}) {
			t.Errorf("%v: %v", l, got)
		}
		up, e := raise(w, l)
		if e != api.OK || len(up) != 2 || len(up[0].Locals) != 0 || len(up[0].Stack) != 0 || up[0].Self != top || !frames.Same(up[1], api.Frame{}) {
			t.Errorf("%v: %v, %v", l, up, e)
		}
		apart(t, up)
	}
}

// P3, T9: the same again, whatever was asked in between; in a world whose modules and classes came in another order, too.
func TestSameAgain(t *testing.T) {
	x := newMaker(t, 4)
	for range 100 {
		m := looseOf(x)
		family, rest := m, m
		family.Classes, rest.Classes = m.Classes[:5], slices.Clone(m.Classes[5:])
		slices.Reverse(rest.Classes)
		w, other := linked(t, m), linked(t, rest, family)
		for n := range headings {
			least, e := verify.Method(w, "M", n)
			if e == api.ErrSuper {
				continue
			}
			l := x.changed(x.someFrames(bodyOf(w, "M", n), least))
			a, e := typing.Raise(w, "M", n, l)
			at, wrong := typing.Check(w, "M", n, l)
			typing.Raise(w, "M", n, least)
			typing.Check(w, "M", n, nil)
			b, err := typing.Raise(other, "M", n, l)
			at2, wrong2 := typing.Check(other, "M", n, l)
			c, again := typing.Raise(w, "M", n, l)
			at3, wrong3 := typing.Check(w, "M", n, l)
			if e != err || e != again || texts(a) != texts(b) || texts(a) != texts(c) {
				t.Fatalf("%v\n%s\n%v\n%s\n%v\n%s", e, texts(a), err, texts(b), again, texts(c))
			}
			if at != at2 || at != at3 || wrong != wrong2 || wrong != wrong3 {
				t.Fatalf("%d %v, %d %v, %d %v", at, wrong, at2, wrong2, at3, wrong3)
			}
		}
	}
}

// chain puts in classes one above the other, as many as there may be: K1 right below Object, K31 the last one.
func (k *book) chain() {
	super := "Object"
	for n := 1; n < api.MaxChain; n++ {
		name := "K" + strconv.Itoa(n)
		k.class(name + " " + super)
		super = name
	}
}

// climber is a method with as many bytes, Locals, handlers as there may be, in which what is known goes from local to local, round by round.
func (k *book) climber() api.Method {
	body := "from: "
	for n := range 64 {
		body += "gets H s LK31;\nstore " + strconv.Itoa(n) + "\n"
	}
	body += "again: "
	for n := 63; n > 0; n-- {
		body += "load " + strconv.Itoa(n-1) + "\nstore " + strconv.Itoa(n) + "\n"
	}
	body += "to: jump again\nat: pop\nreturn\n"
	for range api.MaxHandlers {
		body += "catch from to at X\n"
	}
	m := k.method("static f ()V", 1, 64, body)
	for len(m.Code) < api.MaxCode {
		m.Code = append(m.Code, api.INop)
	}
	return m
}

// Limits: the longest method over a pool that is full: what is handed in goes from the last class of the longest chain up, class by class, local by local; to all frames, where the handlers begin, too. Then all frames are handed in reached.
func TestTheLongestClimb(t *testing.T) {
	k := begin()
	k.chain()
	m := k.climber()
	k.class("H Object")
	k.classes[len(k.classes)-1].Fields = []api.Field{{Flags: api.FStatic, Name: "s", Type: typ("LK31;")}}
	k.class("X Throwable")
	k.class("M Object", m)
	for n := range int64(api.MaxPool) {
		k.b.Number(n)
	}
	if len(k.b.Pool()) != api.MaxPool || len(m.Code) != api.MaxCode {
		t.Fatalf("%d entries, %d bytes", len(k.b.Pool()), len(m.Code))
	}
	w := linked(t, k.module())
	b := bodyOf(w, "M", 0)
	again := 128
	l := make([]api.Frame, len(b.code))
	for n := range 15 {
		// The first local rises twice with each of them.
		f := api.Frame{Self: top, Locals: slices.Repeat(row("LK31;"), 64)}
		f.Locals[0] = knowledge("LK" + strconv.Itoa(30-2*n) + ";")
		l[again+2*n] = f
	}
	up, e := raise(w, l)
	if e != api.OK || !b.typing(up) || !typing.Below(w, l, up) {
		t.Fatalf("%v:\n%s", e, texts(up))
	}
	if got := check(w, up); got != (told{}) {
		t.Errorf("%v", got)
	}
	want := api.Frame{Self: top, Locals: slices.Repeat(row("LK2;"), 64)}
	if got := up[b.at(m.Handlers[0].To)]; !frames.Same(got, want) {
		t.Errorf("at the end of a round: %s", text(got))
	}
	caught := api.Frame{Self: top, Locals: slices.Repeat(row("top"), 64), Stack: row("LX;")}
	if got := up[b.at(m.Handlers[0].At)]; !frames.Same(got, caught) {
		t.Errorf("where the handlers begin: %s", text(got))
	}
	if last := up[len(up)-1]; frames.Reached(last) {
		t.Errorf("behind the method's end: %s", text(last))
	}
	// All are reached already; one rises.
	high := make([]api.Frame, len(up))
	for n, f := range up {
		high[n] = frames.Twin(f)
	}
	high[again].Locals[0] = knowledge("LObject;")
	over, e := raise(w, high)
	if e != api.OK || check(w, over) != (told{}) || !typing.Below(w, up, over) || over[again].Locals[63] != knowledge("LObject;") {
		t.Errorf("%v:\n%s", e, texts(over))
	}
}
