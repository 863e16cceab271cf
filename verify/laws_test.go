package verify_test

import (
	"math/rand"
	"slices"
	"testing"

	"keystone/api"
	"keystone/frames"
	"keystone/hier"
	"keystone/instr"
	"keystone/step"
	"keystone/verify"
)

// wanted is what Method must tell, by a second, plain writing of it.
func wanted(w *hier.World, class string, number int) ([]api.Frame, api.Errno) {
	b := bodyOf(w, class, number)
	for _, h := range b.m.Handlers {
		if !slices.Contains(w.Chain(h.Class), "Throwable") {
			return nil, api.ErrSuper
		}
	}
	l, found := b.least()
	if !found {
		return nil, api.ErrTyping
	}
	return l, api.OK
}

// P1001, P1003: methods made at random: what is told is what round by round, instruction by instruction is found; it is a typing; All and Crew tell the first one that is refused.
func TestMethodsAtRandom(t *testing.T) {
	x := newMaker(t, 1001)
	met := map[api.Errno]int{}
	caught, reached := 0, map[int]int{}
	for range 1500 {
		size := 2 + x.r.Intn(14)
		w := x.world(t, func(n int) api.Method { return x.made(n, size) })
		first := told{}
		for n := range headings {
			want, err := wanted(w, "M", n)
			got, e := verify.Method(w, "M", n)
			b := bodyOf(w, "M", n)
			if e != err || !slices.EqualFunc(got, want, frames.Same) {
				t.Fatalf("%s %v %v: %v\n%s\nwanted %v\n%s", headings[n], b.code, b.m.Handlers, e, texts(got), err, texts(want))
			}
			if e == api.OK && !b.typing(got) {
				t.Fatalf("%s %v %v: no typing:\n%s", headings[n], b.code, b.m.Handlers, texts(got))
			}
			met[e]++
			if first.err == api.OK && e != api.OK {
				first = told{"M", n, e}
			}
			for i, f := range got {
				if frames.Reached(f) {
					reached[b.code[i].Op]++
				}
			}
			if e == api.OK && len(b.m.Handlers) > 0 && frames.Reached(got[b.at(b.m.Handlers[0].At)]) {
				caught++
			}
		}
		if got := all(w); got != first {
			t.Fatalf("All: %v, wanted %v", got, first)
		}
		if got := crew(w, 1+x.r.Intn(8)); got != first {
			t.Fatalf("Crew: %v, wanted %v", got, first)
		}
	}
	t.Logf("%v, %d", met, caught)
	if met[api.OK] < 1000 || met[api.ErrTyping] < 1000 || met[api.ErrSuper] < 10 || caught < 100 {
		t.Errorf("too few of a kind: %v, %d", met, caught)
	}
	for _, i := range x.all {
		if reached[i.Op] == 0 {
			t.Errorf("%s is never reached", instr.Name(i.Op))
		}
	}
}

// P1003: whatever else is a typing is above what is told: frames at random, raised till they are one.
func TestOtherTypingsAreAbove(t *testing.T) {
	x := newMaker(t, 1003)
	known := row("num nil top LA; LB; LD; LObject; [I LX; A@0 B@3 A! M! LM; LI;")
	selves := row("top M! LM;")
	others, none := 0, 0
	for range 400 {
		size := 2 + x.r.Intn(8)
		w := x.world(t, func(n int) api.Method { return x.made(n, size) })
		for n := range headings {
			b := bodyOf(w, "M", n)
			got, e := verify.Method(w, "M", n)
			if e == api.ErrSuper {
				continue
			}
			for range 8 {
				l := make([]api.Frame, len(b.code))
				for range 1 + x.r.Intn(3) {
					i := x.r.Intn(len(l))
					depth := x.r.Intn(4)
					if e == api.OK && frames.Reached(got[i]) {
						depth = len(got[i].Stack)
					}
					l[i] = api.Frame{Self: some(x.r, selves, 1)[0], Locals: some(x.r, known, 3), Stack: some(x.r, known, depth)}
				}
				up, found := b.climb(l)
				switch {
				case !found:
					none++
				case e != api.OK:
					t.Fatalf("%v: %v, but a typing is\n%s", b.code, e, texts(up))
				case !b.typing(up):
					t.Fatalf("%v: no typing:\n%s", b.code, texts(up))
				case !allBelow(w, got, up):
					t.Fatalf("%v:\n%s\nis not below\n%s", b.code, texts(got), texts(up))
				case !slices.EqualFunc(got, up, frames.Same):
					others++
				}
			}
		}
	}
	t.Logf("%d others, %d none", others, none)
	if others < 500 || none < 500 {
		t.Errorf("%d others, %d none", others, none)
	}
}

// some are so many of l.
func some(r *rand.Rand, l []api.VType, n int) []api.VType {
	var got []api.VType
	for range n {
		got = append(got, l[r.Intn(len(l))])
	}
	return got
}

// every are all frames of one local and at most one place on the Stack, over some knowledge; Frame{} too.
func every(selves, known []api.VType) []api.Frame {
	l := []api.Frame{{}}
	for _, own := range selves {
		for _, v := range known {
			l = append(l, api.Frame{Self: own, Locals: []api.VType{v}})
			for _, s := range known {
				l = append(l, api.Frame{Self: own, Locals: []api.VType{v}, Stack: []api.VType{s}})
			}
		}
	}
	return l
}

// search goes through all rows of frames that are a typing, and tells each; frames are told by their numbers in l.
func (b body) search(l []api.Frame, tell func(row []int)) {
	// fits tells of two instructions, and of the numbers of their frames, whether all ways from the first to the second one come below.
	n := len(b.code)
	able := make([][]bool, n)
	fits := make([][][]bool, n*n)
	entry, _ := frames.Entry(b.w, b.class, b.number)
	for i := range n {
		able[i] = make([]bool, len(l))
		for f := range l {
			ways, ok := b.ways(i, l[f])
			able[i][f] = ok && (i > 0 || frames.Below(b.w, entry, l[f]))
			for _, x := range ways {
				at := i*n + x.to
				if fits[at] == nil {
					fits[at] = make([][]bool, len(l))
				}
				if fits[at][f] == nil {
					fits[at][f] = slices.Repeat([]bool{true}, len(l))
				}
				for g := range l {
					fits[at][f][g] = fits[at][f][g] && frames.Below(b.w, x.f, l[g])
				}
			}
		}
	}
	may := func(i, f, j, g int) bool {
		x := fits[i*n+j]
		return x == nil || x[f] == nil || x[f][g]
	}
	row := make([]int, n)
	var deal func(i int)
	deal = func(i int) {
		if i == n {
			tell(row)
			return
		}
	next:
		for f := range l {
			if !able[i][f] {
				continue
			}
			row[i] = f
			for j := range i + 1 {
				if !may(i, f, j, row[j]) || !may(j, row[j], i, f) {
					continue next
				}
			}
			deal(i + 1)
		}
	}
	deal(0)
}

// P1003: small methods, and all rows of frames over some knowledge: just where Method tells frames there are typings, and it is below them all.
func TestAllTypingsOfSmallMethods(t *testing.T) {
	some := []struct {
		heading       string
		selves, known string
		lines         []string
		rounds        int
	}{
		{"static f (LB;)V", "top", "num nil top LB; LA; A@0", []string{"nop", "nil", "number 5", "load 0", "store 0", "pop", "print", "isnil", "isnil", "zero", "jump", "jump", "new A", "get A next LA;", "init A <init> ()V", "puts A s LA;", "return", "return", "throw"}, 2000},
		{"<init> ()V", "top M! LM;", "nil top M! LM; LX;", []string{"nop", "nil", "load 0", "load 0", "store 0", "pop", "isnil", "jump", "init A <init> ()V", "init A <init> ()V", "return", "return", "throw"}, 600},
	}
	r := rand.New(rand.NewSource(3))
	typings, taken, refused := 0, 0, 0
	for _, x := range some {
		l := every(row(x.selves), row(x.known))
		for range x.rounds {
			w, size := smallMethod(t, r, x.heading, x.lines)
			got, e := methodOf(w)
			b := bodyOf(w, "M", 0)
			if len(got) > 0 && !b.typing(got) {
				t.Fatalf("%v: no typing:\n%s", b.code, texts(got))
			}
			found := 0
			above := make([][]bool, size)
			for i := range got {
				for _, f := range l {
					above[i] = append(above[i], frames.Below(w, got[i], f))
				}
			}
			b.search(l, func(row []int) {
				found++
				for i, f := range row {
					if e != api.OK || !above[i][f] {
						t.Fatalf("%v %v: %v\n%s\nis not below a typing: %d: %s", b.code, b.m.Handlers, e, texts(got), i, text(l[f]))
					}
				}
			})
			typings += found
			if e == api.OK {
				taken++
			} else {
				refused++
			}
		}
	}
	t.Logf("%d typings of %d methods, none of %d", typings, taken, refused)
	if typings < 1000 || taken < 200 || refused < 500 {
		t.Errorf("%d typings of %d methods, none of %d", typings, taken, refused)
	}
}

// smallMethod is a world with a method of M of 2 or 3 instructions, one local, a Stack of one place, perhaps a handler.
func smallMethod(t *testing.T, r *rand.Rand, heading string, lines []string) (*hier.World, int) {
	size := 2 + r.Intn(2)
	labels := []string{"a", "b", "c", "d"}
	s := ""
	for i := range size {
		line := lines[r.Intn(len(lines))]
		if op, _ := instr.Op(line); jumps(op) {
			line += " " + labels[r.Intn(size)]
		}
		s += labels[i] + ": " + line + "\n"
	}
	s += labels[size] + ":\n"
	if r.Intn(3) == 0 {
		from := r.Intn(size)
		s += "catch " + labels[from] + " " + labels[from+1+r.Intn(size-from)] + " " + labels[r.Intn(size)] + " X\n"
	}
	return alone(t, heading, 1, 1, s), size
}

// What is gone through in one go leans on this: all but store, new and init leave Self and the Locals as they are, so that handlers find the same ahead of each.
func TestStepsThatLeaveLocals(t *testing.T) {
	x := newMaker(t, 5)
	known := row("num num num nil nil top LA; LB; LD; LObject; LThrowable; LX; [I [LA; A@7 B@7 X@7 M! LI; LF;")
	selves := row("top M! LM;")
	met := map[int]int{}
	for range 60000 {
		i := x.all[x.r.Intn(len(x.all))]
		i.At = 7
		f := api.Frame{Self: some(x.r, selves, 1)[0], Locals: some(x.r, known, 3), Stack: some(x.r, known, x.r.Intn(4))}
		out, e := step.Step(x.base, "M", x.r.Intn(len(headings)), i, f)
		if e != api.OK {
			continue
		}
		met[i.Op]++
		switch i.Op {
		case api.IStore, api.INew, api.IInit:
			continue
		}
		if !frames.Same(frames.Catch(f, "X"), frames.Catch(out, "X")) {
			t.Fatalf("%s of %s: %s", instr.Name(i.Op), text(f), text(out))
		}
	}
	for _, i := range x.all {
		if met[i.Op] == 0 {
			t.Errorf("%s is never done", instr.Name(i.Op))
		}
	}
}
