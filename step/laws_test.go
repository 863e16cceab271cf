package step_test

import (
	"math/rand"
	"slices"
	"testing"

	"keystone/api"
	"keystone/frames"
	"keystone/hier"
	"keystone/instr"
	"keystone/lattice"
	"keystone/step"
)

// keeps tells whether a step that can be done in f can be done in g, which is below it, and what comes out is below; whether it could be done is told, too.
func keeps(t *testing.T, w *hier.World, x site, i api.Instr, g, f api.Frame) bool {
	t.Helper()
	up, e := step.Step(w, x.class, x.method, i, f)
	if e != api.OK {
		return false
	}
	down, e := step.Step(w, x.class, x.method, i, g)
	if e != api.OK || !frames.Below(w, down, up) {
		t.Fatalf("%v, %s %v of %v: %v; of %v below it: %v, %v", x, instr.Name(i.Op), i, f, up, g, down, e)
	}
	return true
}

// below are those of known that are below one.
func below(w *hier.World, v api.VType) []api.VType {
	var l []api.VType
	for _, a := range known {
		if lattice.Below(w, a, v) {
			l = append(l, a)
		}
	}
	return l
}

// P903: each instruction over all Stacks of one place, ahead of it two that it may want, and all that are below.
func TestOrderIsKeptPlaceByPlace(t *testing.T) {
	w := world(t)
	met := map[int]int{}
	beside := [][2]string{{"", ""}, {"num", ""}, {"", "num"}, {"[LA;", ""}, {"nil num", ""}, {"[LA; num", ""}, {"[I num", ""}, {"", "num nil"}, {"LC;", ""}, {"", "LA;"}, {"LC; num", ""}}
	all := allInstrs(poolA)
	lower := map[api.VType][]api.VType{}
	for _, v := range known {
		lower[v] = below(w, v)
	}
	for _, pair := range beside {
		left, right := row(pair[0]), row(pair[1])
		for _, v := range known {
			f := api.Frame{Self: self("B"), Locals: []api.VType{v, num}, Stack: slices.Concat(left, []api.VType{v}, right)}
			for _, i := range all {
				if _, e := step.Step(w, "A", 0, i, f); e != api.OK {
					continue
				}
				for _, a := range lower[v] {
					g := api.Frame{Self: f.Self, Locals: []api.VType{a, num}, Stack: slices.Concat(left, []api.VType{a}, right)}
					if keeps(t, w, home, i, g, f) {
						met[i.Op]++
					}
				}
				keeps(t, w, home, i, api.Frame{}, f)
			}
		}
	}
	for op := range api.LastInst + 1 {
		if met[op] == 0 && op != api.IReturn {
			t.Errorf("%s is never done", instr.Name(op))
		}
	}
}

// P903: any right frames, and any that are below them, Self too; rows of steps as well.
func TestOrderIsKept(t *testing.T) {
	w := world(t)
	r := rand.New(rand.NewSource(903))
	all, met := allInstrs(poolA), map[int]int{}
	lower := map[api.VType][]api.VType{}
	for _, v := range append(slices.Clone(known), selves...) {
		lower[v] = below(w, v)
	}
	down := func(l []api.VType) []api.VType {
		var got []api.VType
		for _, v := range l {
			got = append(got, lower[v][r.Intn(len(lower[v]))])
		}
		return got
	}
	own := func(v api.VType) api.VType {
		for {
			if a := down([]api.VType{v})[0]; slices.Contains(selves, a) {
				return a
			}
		}
	}
	for range 60000 {
		x := sites()[2+r.Intn(len(sites())-2)]
		f := someFrame(r, 3, r.Intn(5))
		g := api.Frame{Self: own(f.Self), Locals: down(f.Locals), Stack: down(f.Stack)}
		i := all[r.Intn(len(all))]
		if keeps(t, w, x, i, g, f) {
			met[i.Op]++
		}
		row := []api.Instr{all[r.Intn(len(all))], i, all[r.Intn(len(all))]}
		up, _, e := step.Row(w, x.class, x.method, f, row...)
		if e != api.OK {
			continue
		}
		if out, _, e := step.Row(w, x.class, x.method, g, row...); e != api.OK || !frames.Below(w, out, up) {
			t.Fatalf("%v, %v of %v: %v; of %v below it: %v, %v", x, row, f, up, g, out, e)
		}
	}
	if met[api.IReturn] == 0 || met[api.INew] == 0 || met[api.IInit] == 0 {
		t.Errorf("%v", met)
	}
}

// P901, W9: of a right frame of the method each step that can be done tells a right one: as many Locals, a Stack that is not too full, right knowledge.
func TestRightFramesStayRight(t *testing.T) {
	w := world(t)
	r := rand.New(rand.NewSource(9))
	all := allInstrs(poolA)
	for range 40000 {
		x := sites()[2+r.Intn(len(sites())-2)]
		c, _, _ := w.Class(x.class)
		m := c.Methods[x.method]
		f := someFrame(r, m.Locals, r.Intn(min(m.Stack, 5)+1))
		got, e := step.Step(w, x.class, x.method, all[r.Intn(len(all))], f)
		if e != api.OK {
			continue
		}
		if len(got.Locals) != m.Locals || len(got.Stack) > m.Stack || !frames.Reached(got) {
			t.Fatalf("%v of %v: %v", x, f, got)
		}
		for _, v := range slices.Concat([]api.VType{got.Self}, got.Locals, got.Stack) {
			if !right(w, v) {
				t.Fatalf("%v of %v: %v", x, f, v)
			}
		}
	}
}

// right is W7's.
func right(w *hier.World, v api.VType) bool {
	c, _, there := w.Class(v.Type.Name)
	switch v.Kind {
	case api.VNum, api.VNil, api.VTop:
		return v == api.VType{Kind: v.Kind}
	case api.VRef:
		return v.At == 0 && v.Type.Dims >= 0 && v.Type.Dims <= 8 && (there || v.Type.Name == "" && v.Type.Dims > 0)
	case api.VFresh:
		return v.At >= 0 && v.Type.Dims == 0 && there && c.Flags != api.FFace
	case api.VSelf:
		return v.At == 0 && v.Type.Dims == 0 && there && c.Flags != api.FFace
	}
	return false
}
