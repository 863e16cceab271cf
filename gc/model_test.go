package gc_test

import (
	"encoding/binary"
	"slices"

	"keystone/arena"
	"keystone/gc"
)

// object is one of the used half.
type object struct {
	at    int64
	kind  int
	slots []int64
}

func (x object) size() int64 { return 16 + 8*int64(len(x.slots)) }

// model is a second, plain writing of the chapter: the used half as a list of objects.
type model []object

// read takes down what an arena tells of its used half.
func read(a *arena.Arena) model {
	var m model
	for _, at := range a.All() {
		kind, _ := a.Kind(at)
		m = append(m, object{at, kind, slots(a, at)})
	}
	return m
}

func (m model) find(at int64) *object {
	i := slices.IndexFunc(m, func(x object) bool { return x.at == at })
	if i < 0 {
		return nil
	}
	return &m[i]
}

// told are the slots of an object which the shape tells, in its order.
func told(s gc.Shape, x *object) []int {
	return slices.DeleteFunc(slices.Clone(s.Refs(x.kind, len(x.slots))), func(slot int) bool { return slot < 0 || slot >= len(x.slots) })
}

// reach goes on by ages: the roots, what they lead to, what these lead to.
func (m model) reach(s gc.Shape, roots ...int64) []int64 {
	var list []int64
	for age := roots; len(age) > 0; {
		var next []int64
		for _, at := range age {
			x := m.find(at)
			if x == nil || slices.Contains(list, at) {
				continue
			}
			list = append(list, at)
			for _, slot := range told(s, x) {
				next = append(next, x.slots[slot])
			}
		}
		age = next
	}
	return list
}

func (m model) live(s gc.Shape, roots ...int64) int {
	n := int64(0)
	for _, at := range m.reach(s, roots...) {
		n += m.find(at).size()
	}
	return int(n)
}

// collect tells what lies in the used half behind a collection, and where the roots lie; false: a root is refused.
func (m model) collect(s gc.Shape, roots ...int64) (model, []int64, bool) {
	for _, at := range roots {
		if at != 0 && m.find(at) == nil {
			return m, nil, false
		}
	}
	now := map[int64]int64{}
	end := int64(8)
	list := m.reach(s, roots...)
	for _, at := range list {
		now[at] = end
		end += m.find(at).size()
	}
	var kept model
	for _, at := range list {
		x := m.find(at)
		y := object{now[at], x.kind, slices.Clone(x.slots)}
		for _, slot := range told(s, x) {
			if to, is := now[x.slots[slot]]; is {
				y.slots[slot] = to
			}
		}
		kept = append(kept, y)
	}
	var l []int64
	for _, at := range roots {
		l = append(l, now[at])
	}
	return kept, l, true
}

// bytes spells the used half.
func (m model) bytes() []byte {
	var b []byte
	for _, x := range m {
		b = binary.BigEndian.AppendUint64(b, uint64(x.kind))
		b = binary.BigEndian.AppendUint64(b, uint64(len(x.slots)))
		for _, v := range x.slots {
			b = binary.BigEndian.AppendUint64(b, uint64(v))
		}
	}
	return b
}
