package slow_test

import (
	"math"
	"strings"
	"testing"

	"keystone/api"
	"keystone/hier"
	"keystone/slow"
)

// six are the exceptions of W4, in its order.
var six = strings.Fields("NilError BoundsError CastError DivError DepthError HeapError")

// refusesNew holds New's error against what is wanted.
func refusesNew(t *testing.T, w *hier.World, depth int, want api.Errno) {
	t.Helper()
	if m, e := slow.New(w, depth); m != nil || e != want {
		t.Errorf("New(_, %d): %v, %v; wanted %v", depth, m, e, want)
	}
}

// P1401: depths, of a world that is linked; ErrLoose of one that is not comes first.
func TestNew(t *testing.T) {
	w := world(t, family)
	for _, depth := range []int{0, 257, -1, 1 << 32, 1<<32 + 1, math.MaxInt, math.MinInt} {
		refusesNew(t, w, depth, api.ErrArg)
		for _, other := range []*hier.World{hier.New(), loose(t, family), loose(t, "class A Lost\n")} {
			refusesNew(t, other, depth, api.ErrLoose)
			refusesNew(t, other, 1, api.ErrLoose)
			refusesNew(t, other, 256, api.ErrLoose)
		}
	}
	for _, depth := range []int{1, 2, 255, 256} {
		runs(t, of(t, w, depth), "A f ()V", "", "member")
	}
}

// P1401: the six exceptions are the first objects; there is nothing else.
func TestNewMachine(t *testing.T) {
	empty := hier.New()
	if _, e := empty.Link(); e != api.OK {
		t.Fatal(e)
	}
	for _, w := range []*hier.World{empty, world(t, family)} {
		m := of(t, w, 3)
		for i, name := range six {
			if x, l, e := m.Object(int64(i) + 1); x != typ("L"+name+";") || len(l) != 0 || e != api.OK {
				t.Errorf("%d: %v, %v, %v", i+1, x, l, e)
			}
		}
		if got := m.Stat(); got != (api.Stat{Objects: 6, Bytes: 96}) {
			t.Errorf("%v", got)
		}
	}
}

// P1401: static fields at first: 0, or nil.
func TestStaticsAtFirst(t *testing.T) {
	m := begin(t, "class S Object\nhas static n I\nhas static a LS;\nhas static f LI;\nhas static o LObject;\nhas static r [I\nhas static q [[LS;\nhas n2 I\ninterface I Object\n")
	for name, want := range map[string]api.Value{"n": num(0), "a": obj(0), "f": obj(0), "o": obj(0), "r": obj(0), "q": obj(0)} {
		if v, e := m.Static("S", name); v != want || e != api.OK {
			t.Errorf("%s: %v, %v", name, v, e)
		}
	}
}

// P1401: as many frames as were asked for, and no more.
func TestDepths(t *testing.T) {
	w := world(t, "class M Object\ndoes static f (I)I\nload 0\nzero end\nload 0\nnumber 1\nsub\nstatic M f (I)I\ngive\nend: load 0\ngive")
	for _, depth := range []int{1, 2, 3, 100, 255, 256} {
		m := of(t, w, depth)
		d := int64(depth)
		if r := m.Run(10000, "M", "f", sig("(I)I"), num(d-1)); r.Err != api.OK || r.Value != num(0) || r.Steps != 7*(depth-1)+4 {
			t.Errorf("%d: %s", depth, resText(r))
		}
		if r := m.Run(10000, "M", "f", sig("(I)I"), num(d)); r.Err != api.ErrThrown || r.Thrown != "DepthError" || r.Steps != 6*depth {
			t.Errorf("%d: %s", depth, resText(r))
		}
	}
}
