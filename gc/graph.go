package gc

import (
	"keystone/api"
	"keystone/arena"
)

const (
	first int64 = 8  // the address of a half's first object
	head        = 16 // bytes of an object ahead of its slots
	word        = 8  // those of a slot
)

// graph is an arena's objects, which lead to one another by the slots that a shape tells.
type graph struct {
	*arena.Arena
	shape Shape
}

// ref is a slot that the shape tells, and the number that it holds.
type ref struct {
	slot  int
	holds int64
}

// refs are an object's; what is none of its slots is passed over.
func (g graph) refs(at int64) []ref {
	kind, _ := g.Kind(at)
	slots, _ := g.Slots(at)
	var l []ref
	for _, slot := range g.shape.Refs(kind, slots) {
		if v, err := g.Get(at, slot); err == api.OK {
			l = append(l, ref{slot, v})
		}
	}
	return l
}

// follow copies what a copy's slots lead to. All of them are read ahead of the first that changes: one that is told twice would hold a new address the second time, which may have been another object's.
func (g graph) follow(at int64) {
	for _, r := range g.refs(at) {
		if now, err := g.Copy(r.holds); err == api.OK {
			g.Put(at, r.slot, now)
		}
	}
}

// copies are where roots lie behind a flip; 0 stays 0, as there is nothing to be copied.
func (g graph) copies(roots ...int64) []int64 {
	l := make([]int64, len(roots))
	for i, at := range roots {
		l[i], _ = g.Copy(at)
	}
	return l
}

// mayLead tells whether each root is 0 or an object's address.
func (g graph) mayLead(roots ...int64) bool {
	for _, at := range roots {
		if at != 0 && !g.is(at) {
			return false
		}
	}
	return true
}

func (g graph) is(at int64) bool {
	_, err := g.Slots(at)
	return err == api.OK
}

// size is how many bytes an object has.
func (g graph) size(at int64) int {
	slots, _ := g.Slots(at)
	return head + word*slots
}
