package hier

import (
	"slices"

	"keystone/api"
)

// kin is a class with those that stand above it. It is made only where no class lacks and none comes back to itself: there each walk ends.
type kin struct {
	*class
	chain []*class // it first
	faces []*class // in the order of their walk
}

func (s *shelf) kinOf(c *class) kin {
	chain := s.chainOf(c)
	return kin{c, chain, s.facesOf(chain)}
}

func (s *shelf) chainOf(c *class) []*class {
	var l []*class
	for there := true; there; c, there = s.byName[c.Super] {
		l = append(l, c)
	}
	return l
}

func (s *shelf) facesOf(chain []*class) []*class {
	var l []*class
	met := map[string]struct{}{}
	var walk func(names []string)
	walk = func(names []string) {
		for _, name := range names {
			// Of one that was met its own faces were, too.
			if _, again := met[name]; again {
				continue
			}
			met[name] = struct{}{}
			face := s.byName[name]
			l = append(l, face)
			walk(face.Faces)
		}
	}
	for _, c := range chain {
		walk(c.Faces)
	}
	return l
}

// slot is the place in the class's layout of the field at that place among its own.
func (k kin) slot(at int) int {
	n := slots(k.Fields[:at])
	for _, c := range k.chain[1:] {
		n += slots(c.Fields)
	}
	return n
}

// slots is how many of some fields each object has.
func slots(l []api.Field) int {
	n := 0
	for _, f := range l {
		if f.Flags != api.FStatic {
			n++
		}
	}
	return n
}

// told is the method that an instruction names.
func (k kin) told(op int, h heading) (spot, bool) {
	if k.face() != (op == api.IFace) || (h.name == constructor) != (op == api.IInit) {
		return spot{}, false
	}
	l := k.chain
	switch op {
	case api.IInit:
		l = l[:1]
	case api.IFace:
		l = append([]*class{k.class}, k.faces...)
	}
	s, found := nearest(h, l...)
	if !found || s.static() != (op == api.IStatic) {
		return spot{}, false
	}
	return s, true
}

// pick is the method that is done where an object of the class is called.
func (k kin) pick(h heading) (spot, bool) {
	if k.face() || h.name == constructor {
		return spot{}, false
	}
	s, found := nearest(h, k.chain...)
	if !found || s.abstract() || s.static() {
		return spot{}, false
	}
	return s, true
}

// owed are the headings by which an object of the class may be called though no code stands there.
func (k kin) owed() map[heading]struct{} {
	owed := map[heading]struct{}{}
	for _, c := range slices.Concat(k.chain, k.faces) {
		for h, place := range c.places {
			if (spot{c, place}).abstract() {
				owed[h] = struct{}{}
			}
		}
	}
	return owed
}
