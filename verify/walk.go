package verify

import (
	"cmp"
	"slices"

	"keystone/api"
	"keystone/frames"
	"keystone/instr"
	"keystone/step"
)

// walk goes all ways through a method at once. What is known ahead of its runs only rises, and never above a typing: so it ends, and where it can't go on there is none.
type walk struct {
	site
	runs    []run
	waiting []int // the numbers, in order, of the runs whose frames have risen since they were gone through
}

// workOff goes through what waits till nothing does, and tells whether it could.
func (k *walk) workOff() bool {
	for len(k.waiting) > 0 {
		r := k.runs[k.waiting[0]]
		k.waiting = k.waiting[1:]
		if !k.pass(r) {
			return false
		}
	}
	return true
}

// pass goes through a run, on to wherever it leads, and tells whether it could.
func (k *walk) pass(r run) bool {
	for _, h := range r.handlers {
		if k.Stack == 0 || !k.reach(h.At, frames.Catch(r.known, h.Class)) {
			return false
		}
	}
	behind, _, err := step.Row(k.world, k.class, k.number, r.known, r.code...)
	if err != api.OK {
		return false
	}
	for _, place := range instr.Next(r.last()) {
		if !k.reach(place, behind) {
			return false
		}
	}
	return true
}

// reach lets a way come to a place, and tells whether it may: not behind the code's end, and not where the Stack is of another depth.
func (k *walk) reach(place int, f api.Frame) bool {
	n, begins := k.runAt(place)
	if !begins {
		return false
	}
	r := &k.runs[n]
	up, err := frames.Join(k.world, r.known, f)
	if err != api.OK {
		return false
	}
	if !frames.Same(up, r.known) {
		r.known = up
		k.wait(n)
	}
	return true
}

// runAt is the number of the run that begins at a place.
func (k *walk) runAt(place int) (int, bool) {
	return slices.BinarySearchFunc(k.runs, place, func(r run, at int) int { return cmp.Compare(r.place(), at) })
}

// wait puts a run among those that wait, if it is not there.
func (k *walk) wait(n int) {
	if at, there := slices.BinarySearch(k.waiting, n); !there {
		k.waiting = slices.Insert(k.waiting, at, n)
	}
}

// told are the frames ahead of all instructions, inside of the runs too; each step could be done in the walk already.
func (k *walk) told() []api.Frame {
	var l []api.Frame
	for _, r := range k.runs {
		f := r.known
		for _, i := range r.code {
			l = append(l, f)
			f, _ = step.Step(k.world, k.class, k.number, i, f)
		}
	}
	return l
}
