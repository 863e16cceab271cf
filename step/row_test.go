package step_test

import (
	"math/rand"
	"strings"
	"testing"

	"keystone/api"
	"keystone/hier"
	"keystone/step"
)

// rows holds Row, of instructions by their texts with `, ` between, against what is wanted: P902.
func rows(t *testing.T, w *hier.World, x site, s string, f, want api.Frame, n int, err api.Errno) {
	t.Helper()
	var l []api.Instr
	if s != "" {
		for part := range strings.SplitSeq(s, ", ") {
			l = append(l, in(poolOfSite(x), part))
		}
	}
	if got, m, e := step.Row(w, x.class, x.method, f, l...); m != n || e != err || !alike(got, want) {
		t.Errorf("%v, %s of %v: %v, %d, %v, wanted %v, %d, %v", x, s, f, got, m, e, want, n, err)
	}
}

// P902: none at all: the frame as it is, of whatever method.
func TestRowOfNone(t *testing.T) {
	w := world(t)
	for _, x := range []site{home, {"A", 4}, {"None", 0}, {"A", -1}, {"Object", 0}} {
		for _, f := range []api.Frame{{}, of("top", "", ""), of("A!", "num A@7", "nil"), of("top", "num", "nil nil nil nil nil")} {
			rows(t, w, x, "", f, f, 0, api.OK)
		}
	}
}

// P902: some, and how many there are.
func TestRow(t *testing.T) {
	w := world(t)
	f := of("top", "LA; num", "")
	rows(t, w, home, "nop", f, f, 1, api.OK)
	rows(t, w, home, "load 1, number 5, add, store 1, load 0", f, of("top", "LA; num", "LA;"), 5, api.OK)
	rows(t, w, home, "7: new A, dup, init A <init> ()V", f, of("top", "LA; num", "LA;"), 3, api.OK) // the example
	rows(t, w, home, "7: new A, dup, store 0, 9: new A, dup, init A <init> ()V, pop, init A <init> ()V", f, of("top", "LA; num", ""), 8, api.OK)
	rows(t, w, home, "load 1, give, nop", f, f, 3, api.OK) // on it goes, from the frame behind
	rows(t, w, site{"B", 0}, "load 0, init A <init> ()V, return", of("B!", "B!", ""), of("LB;", "LB;", ""), 3, api.OK)
	rows(t, w, home, "nop, pop, nop", api.Frame{}, api.Frame{}, 3, api.OK)
	many := strings.TrimSuffix(strings.Repeat("nil, pop, ", 5000), ", ")
	rows(t, w, home, many, f, f, 10000, api.OK)
}

// P902: the first that is refused, its number and its error, and no frame.
func TestRowRefused(t *testing.T) {
	w := world(t)
	f := of("top", "LA; num", "")
	rows(t, w, home, "pop", f, api.Frame{}, 0, api.ErrUnder)
	rows(t, w, home, "nop, nil, add, pop, pop", f, api.Frame{}, 2, api.ErrWrong)
	rows(t, w, home, "nil, nil, nil, nil, nil, cast I", f, api.Frame{}, 4, api.ErrOver)
	rows(t, w, home, "nil, load 2", f, api.Frame{}, 1, api.ErrLocal)
	rows(t, w, home, "nil, nop, new I, pop, pop", f, api.Frame{}, 2, api.ErrFace)
	rows(t, w, home, "7: new A, dup, init A <init> ()V, init A <init> ()V", f, api.Frame{}, 3, api.ErrInit)
	rows(t, w, home, "7: new A, 7: new A, swap, init A <init> ()V", f, api.Frame{}, 3, api.ErrInit)
	rows(t, w, site{"B", 0}, "load 0, pop, return", of("B!", "B!", ""), api.Frame{}, 2, api.ErrInit)
	rows(t, w, site{"None", 0}, "nop, nop", f, api.Frame{}, 0, api.ErrMember)
	rows(t, w, site{"A", 99}, "nop", api.Frame{}, api.Frame{}, 0, api.ErrMember)
	if got, n, e := step.Row(w, "A", 0, api.Frame{}, api.Instr{}, api.Instr{Op: 46}); n != 1 || e != api.ErrOp || !alike(got, api.Frame{}) {
		t.Errorf("%v, %d, %v", got, n, e)
	}
}

// P902: any rows, held against one step behind the other.
func TestRowIsSteps(t *testing.T) {
	w := world(t)
	r := rand.New(rand.NewSource(902))
	all := allInstrs(poolA)
	longest := 0
	for range 3000 {
		x := sites()[2+r.Intn(len(sites())-2)]
		start := someFrame(r, r.Intn(4), r.Intn(4))
		var l []api.Instr
		f, n, e := start, 0, api.OK
		for len(l) < 12 {
			i := all[r.Intn(len(all))]
			for range 30 { // one that can be done, if it is found soon
				if _, wrong := step.Step(w, x.class, x.method, i, f); wrong == api.OK {
					break
				}
				i = all[r.Intn(len(all))]
			}
			l = append(l, i)
			if e == api.OK {
				if f, e = step.Step(w, x.class, x.method, i, f); e == api.OK {
					n++
				}
			}
			if e != api.OK && r.Intn(2) == 0 {
				break
			}
		}
		if got, m, err := step.Row(w, x.class, x.method, start, l...); m != n || err != e || !alike(got, f) {
			t.Fatalf("%v, %v of %v: %v, %d, %v, wanted %v, %d, %v", x, l, start, got, m, err, f, n, e)
		}
		longest = max(longest, n)
	}
	if longest < 10 {
		t.Errorf("the longest row has %d", longest)
	}
}
