package typing_test

import (
	"math/rand"
	"slices"
	"testing"

	"keystone/api"
	"keystone/frames"
	"keystone/hier"
	"keystone/instr"
	"keystone/typing"
	"keystone/verify"
)

// known is knowledge that frames at random are made of; selves what their Self may be.
var (
	known  = row("num num nil top LA; LB; LC; LD; LObject; LThrowable; LX; LY; [I [LA; A@0 B@3 X@0 A! M! LM; LI; LF;")
	selves = row("top top M! LM; LA;")
)

// some are so many of l.
func some(r *rand.Rand, l []api.VType, n int) []api.VType {
	var got []api.VType
	for range n {
		got = append(got, l[r.Intn(len(l))])
	}
	return got
}

// someFrame is a right one of the maker's methods.
func (x *maker) someFrame(depth int) api.Frame {
	return api.Frame{Self: some(x.r, selves, 1)[0], Locals: some(x.r, known, 3), Stack: some(x.r, known, depth)}
}

// someFrames are a few that are reached among others that are not, most of them of the depth of the least ones, if there are any.
func (x *maker) someFrames(b body, least []api.Frame) []api.Frame {
	l := make([]api.Frame, len(b.code))
	for range x.r.Intn(4) {
		n := x.r.Intn(len(l))
		l[n] = x.someFrame(x.r.Intn(4))
		if len(least) > 0 && frames.Reached(least[n]) && x.r.Intn(8) > 0 {
			l[n] = x.near(least[n])
		}
	}
	return l
}

// near is a frame with one place or two changed, most times by what is above.
func (x *maker) near(f api.Frame) api.Frame {
	f = frames.Twin(f)
	for range 1 + x.r.Intn(2) {
		places := []*api.VType{&f.Self}
		for _, row := range [][]api.VType{f.Locals, f.Locals, f.Stack} {
			for i := range row {
				places = append(places, &row[i])
			}
		}
		p := places[x.r.Intn(len(places))]
		if p == &f.Self {
			*p = some(x.r, selves, 1)[0]
		} else {
			*p = some(x.r, known, 1)[0]
		}
	}
	return f
}

// each goes through methods at random, and tells those that have no handlers of what is not thrown, with their least frames, if they have any.
func (x *maker) each(t *testing.T, rounds, most int, tell func(w *hier.World, b body, least []api.Frame)) {
	t.Helper()
	for range rounds {
		size := 2 + x.r.Intn(most)
		w := x.world(t, func(n int) api.Method { return x.made(n, size) })
		for n := range headings {
			if least, e := verify.Method(w, "M", n); e != api.ErrSuper {
				tell(w, bodyOf(w, "M", n), least)
			}
		}
	}
}

// changed is a typing with something about it changed, right or wrong.
func (x *maker) changed(l []api.Frame) []api.Frame {
	l = slices.Clone(l)
	n := x.r.Intn(len(l))
	switch x.r.Intn(12) {
	case 0:
		return l[:n]
	case 1:
		return append(l, l[n])
	case 2:
		l[n] = api.Frame{}
	case 3:
		l[n] = x.someFrame(x.r.Intn(5))
	case 4:
		l[n] = frames.Twin(l[n])
		l[n].Locals = append(l[n].Locals, num)
	case 5:
		wrong := wrongKnowledge()
		l[n] = api.Frame{Self: top, Locals: []api.VType{num, wrong[x.r.Intn(len(wrong))], num}}
	case 6:
		l[n].Self = num
	case 7:
		// As it is.
	case 8:
		if frames.Reached(l[n]) {
			l[n] = x.near(l[n])
		}
	default:
		l[n] = x.higher(l[n])
	}
	return l
}

// higher is a frame above another one, or any at all above one that is not reached.
func (x *maker) higher(f api.Frame) api.Frame {
	if !frames.Reached(f) {
		return x.someFrame(x.r.Intn(4))
	}
	up, _ := frames.Join(x.base, f, x.near(f))
	return up
}

// P1101: methods made at random, and frames that are a typing, or near to one: what Check tells is what a second, plain writing does.
func TestCheckAtRandom(t *testing.T) {
	x := newMaker(t, 1101)
	met := map[api.Errno]int{}
	x.each(t, 500, 10, func(w *hier.World, b body, least []api.Frame) {
		base := [][]api.Frame{make([]api.Frame, len(b.code))}
		if len(least) > 0 {
			base = append(base, least, least)
		} else {
			// No typing: frames that are so high that much of them is one.
			base = append(base, x.someFrames(b, nil))
		}
		if up, e := typing.Raise(w, "M", b.number, x.someFrames(b, least)); e == api.OK {
			base = append(base, up, up)
		}
		for _, l := range base {
			for range 6 {
				l := x.changed(l)
				n, e := typing.Check(w, "M", b.number, l)
				if got, want := (told{n, e}), b.check(l); got != want {
					t.Fatalf("%s %v %v:\n%stold %v, wanted %v", headings[b.number], b.code, b.m.Handlers, texts(l), got, want)
				}
				met[e]++
			}
		}
	})
	t.Log(met)
	for _, e := range []api.Errno{api.OK, api.ErrArg, api.ErrTyping, api.ErrUnder, api.ErrOver, api.ErrWrong, api.ErrInit, api.ErrEnd} {
		if met[e] < 20 {
			t.Errorf("%v: only %d", e, met[e])
		}
	}
}

// P1103, P1104: frames at random: what Raise tells is what round by round, instruction by instruction is found; it is a typing, above what was handed in; Raise leaves it as it is; of nothing it is verify.Method's.
func TestRaiseAtRandom(t *testing.T) {
	x := newMaker(t, 1103)
	raised, none, caught := 0, 0, 0
	reached := map[int]int{}
	x.each(t, 500, 14, func(w *hier.World, b body, least []api.Frame) {
		up, e := typing.Raise(w, "M", b.number, make([]api.Frame, len(b.code)))
		if (e == api.OK) != (len(least) > 0) || texts(up) != texts(least) {
			t.Fatalf("%s %v %v: %v\n%s\nwanted\n%s", headings[b.number], b.code, b.m.Handlers, e, texts(up), texts(least))
		}
		for range 6 {
			l := x.someFrames(b, least)
			want, found := b.climb(l)
			up, e := typing.Raise(w, "M", b.number, l)
			if found != (e == api.OK) || !found && e != api.ErrTyping || texts(up) != texts(want) {
				t.Fatalf("%s %v %v:\n%sraised: %v\n%s\nwanted\n%s", headings[b.number], b.code, b.m.Handlers, texts(l), e, texts(up), texts(want))
			}
			if !found {
				none++
				continue
			}
			if texts(up) != texts(least) {
				raised++
			}
			for n, f := range up {
				if frames.Reached(f) {
					reached[b.code[n].Op]++
				}
			}
			if len(b.m.Handlers) > 0 && frames.Reached(up[b.at(b.m.Handlers[0].At)]) {
				caught++
			}
			again, _ := typing.Raise(w, "M", b.number, up)
			if got := b.check(up); got != (told{}) || !typing.Below(w, l, up) || !typing.Below(w, least, up) || texts(again) != texts(up) {
				t.Fatalf("%s %v %v:\n%sraised:\n%s%v, then\n%s", headings[b.number], b.code, b.m.Handlers, texts(l), texts(up), got, texts(again))
			}
		}
	})
	t.Logf("%d raised, %d not, %d with handlers", raised, none, caught)
	if raised < 1000 || none < 1000 || caught < 100 {
		t.Errorf("%d raised, %d not, %d with handlers", raised, none, caught)
	}
	for _, i := range x.all {
		if reached[i.Op] == 0 {
			t.Errorf("%s is never reached", instr.Name(i.Op))
		}
	}
}

// P1104: Raise keeps the order, and a typing that is above some frames is above what they are raised to.
func TestOtherTypingsAreAbove(t *testing.T) {
	x := newMaker(t, 1104)
	above, beside := 0, 0
	x.each(t, 400, 8, func(w *hier.World, b body, least []api.Frame) {
		for range 4 {
			l, high := x.someFrames(b, least), x.someFrames(b, least)
			for n := range l {
				if up, e := frames.Join(w, l[n], high[n]); e == api.OK {
					high[n] = up
				} else {
					high[n] = l[n]
				}
			}
			top, e := typing.Raise(w, "M", b.number, high)
			up, err := typing.Raise(w, "M", b.number, l)
			switch {
			case e != api.OK:
				beside++
			case err != api.OK || !typing.Below(w, l, top) || !typing.Below(w, up, top):
				t.Fatalf("%v:\n%sraised: %v\n%sis not below\n%s", b.code, texts(l), err, texts(up), texts(top))
			case texts(up) != texts(top):
				above++
			}
		}
	})
	t.Logf("%d above, %d without", above, beside)
	if above < 500 || beside < 100 {
		t.Errorf("%d above, %d without", above, beside)
	}
}

// every are all frames of one local and at most one place on the Stack, over some knowledge; Frame{} too.
func every(selves, known []api.VType) []api.Frame {
	l := []api.Frame{{}}
	for _, own := range selves {
		for _, v := range known {
			l = append(l, api.Frame{Self: own, Locals: []api.VType{v}})
			for _, s := range known {
				l = append(l, api.Frame{Self: own, Locals: []api.VType{v}, Stack: []api.VType{s}})
			}
		}
	}
	return l
}

// typings are all rows of such frames that are one.
func (b body) typings(l []api.Frame) [][]api.Frame {
	entry, _ := frames.Entry(b.w, b.class, b.number)
	ways := make([][][]way, len(b.code)) // of each instruction in each of the frames
	able := make([][]int, len(b.code))   // those in which it can be done
	for i := range b.code {
		for n, f := range l {
			x, ok := b.ways(i, f)
			ways[i] = append(ways[i], x)
			if ok && (i > 0 || frames.Below(b.w, entry, f)) {
				able[i] = append(able[i], n)
			}
		}
	}
	var found [][]api.Frame
	row := make([]int, 0, len(b.code))
	// fits tells whether all ways between the first frames of a row, as far as it is dealt, come below.
	fits := func() bool {
		last := len(row) - 1
		for i, n := range row {
			for _, x := range ways[i][n] {
				if x.to <= last && (x.to == last || i == last) && !frames.Below(b.w, x.f, l[row[x.to]]) {
					return false
				}
			}
		}
		return true
	}
	var deal func()
	deal = func() {
		i := len(row)
		if i == len(b.code) {
			var one []api.Frame
			for _, n := range row {
				one = append(one, l[n])
			}
			found = append(found, one)
			return
		}
		for _, n := range able[i] {
			row = append(row, n)
			if fits() {
				deal()
			}
			row = row[:i]
		}
	}
	deal()
	return found
}

// smallMethod has 2 to 4 instructions, one local, a Stack of one place, perhaps a handler.
func smallMethod(r *rand.Rand, heading string, lines []string) method {
	size := 2 + r.Intn(3)
	labels := []string{"a", "b", "c", "d", "e"}
	s := ""
	for i := range size {
		line := lines[r.Intn(len(lines))]
		if op, _ := instr.Op(line); jumps(op) {
			line += " " + labels[r.Intn(size)]
		}
		s += labels[i] + ": " + line + "\n"
	}
	s += labels[size] + ":\n"
	if r.Intn(3) == 0 {
		from := r.Intn(size)
		s += "catch " + labels[from] + " " + labels[from+1+r.Intn(size-from)] + " " + labels[r.Intn(size)] + " X\n"
	}
	return method{heading, 1, 1, s}
}

// P1101, P1103, P1104: small methods, and all rows of frames over some knowledge that are a typing: Check takes them; whatever frames are handed in, Raise tells a typing that is below all of those above them, and none only where there is none.
func TestAllTypingsOfSmallMethods(t *testing.T) {
	r := rand.New(rand.NewSource(1104))
	taken, none, above := 0, 0, 0
	for _, x := range []struct {
		heading       string
		selves, known string
		lines         []string
		rounds        int
	}{
		{"static f (LB;)V", "top", "num nil top LB; LA; A@0", []string{"nop", "nil", "number 5", "load 0", "store 0", "pop", "print", "isnil", "isnil", "zero", "jump", "jump", "new A", "get A next LA;", "init A <init> ()V", "puts A s LA;", "return", "return", "throw"}, 300},
		{"static f (LB;)V", "top LM;", "nil top LB; LA;", []string{"nop", "nil", "load 0", "store 0", "isnil", "isnil", "jump", "return", "return"}, 300},
		{"<init> ()V", "top M! LM;", "nil top M! LM;", []string{"nop", "nil", "load 0", "load 0", "store 0", "pop", "isnil", "jump", "init A <init> ()V", "init A <init> ()V", "return", "return"}, 300},
	} {
		l := every(row(x.selves), row(x.known))
		for range x.rounds {
			m := smallMethod(r, x.heading, x.lines)
			w := m.world(t)
			b := bodyOf(w, "M", 0)
			typings := b.typings(l)
			for _, x := range typings[:min(40, len(typings))] {
				if got := check(w, x); got != (told{}) {
					t.Fatalf("%s\n%s\n%s: told %v", m.heading, m.code, texts(x), got)
				}
			}
			for range 20 {
				// Below a typing, or not so.
				handed := make([]api.Frame, len(b.code))
				for n := range handed {
					if r.Intn(2) == 0 {
						handed[n] = l[r.Intn(len(l))]
					}
				}
				if len(typings) > 0 && r.Intn(2) == 0 {
					high := typings[r.Intn(len(typings))]
					for n := range handed {
						if !frames.Below(w, handed[n], high[n]) {
							handed[n] = []api.Frame{{}, high[n]}[r.Intn(2)]
						}
					}
				}
				up, e := raise(w, handed)
				if e == api.OK && !(b.typing(up) && typing.Below(w, handed, up)) {
					t.Fatalf("%s\n%s\n%s: raised to\n%s", m.heading, m.code, texts(handed), texts(up))
				}
				for _, x := range typings {
					if !typing.Below(w, handed, x) {
						continue
					}
					above++
					if e != api.OK || !typing.Below(w, up, x) {
						t.Fatalf("%s\n%s\n%s: %v, raised to\n%swhich is not below\n%s", m.heading, m.code, texts(handed), e, texts(up), texts(x))
					}
				}
				if e == api.OK {
					taken++
				} else {
					none++
				}
			}
		}
	}
	t.Logf("%d times raised, %d times not, %d typings above", taken, none, above)
	if taken < 1000 || none < 1000 || above < 10000 {
		t.Errorf("%d times raised, %d times not, %d typings above", taken, none, above)
	}
}
