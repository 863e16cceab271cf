package hier

import (
	"slices"

	"keystone/api"
	"keystone/desc"
	"keystone/pool"
)

const (
	top         = "Object"    // above which there is none
	throwable   = "Throwable" // above all exceptions
	constructor = "<init>"
)

// given are the classes that are there from the beginning.
func given() []api.Class {
	l := []api.Class{{Name: top}, {Name: throwable, Super: top}}
	for _, name := range []string{"NilError", "BoundsError", "CastError", "DivError", "DepthError", "HeapError"} {
		l = append(l, api.Class{Name: name, Super: throwable})
	}
	for i := range l {
		l[i].Methods = []api.Method{{Name: constructor, Sig: api.Sig{Void: true}}}
	}
	return l
}

// origin is what the classes of one module share.
type origin struct {
	pool  []api.Entry
	named []string // the classes that its pool names: asked of each of its classes, so told once
}

// heading is all by which a method is told from the others of its class; signatures are the same just where their texts are.
type heading struct{ name, sig string }

// headingOf is no method's heading where the signature is not right: then its text is empty.
func headingOf(name string, g api.Sig) heading {
	text, _ := desc.SigText(g)
	return heading{name, text}
}

// class is one that is there.
type class struct {
	api.Class
	*origin
	places map[heading]int // of its methods among Methods
}

func newClass(from *origin, c api.Class) *class {
	places := map[heading]int{}
	for i, m := range c.Methods {
		places[headingOf(m.Name, m.Sig)] = i
	}
	return &class{c, from, places}
}

func (c *class) face() bool { return c.Flags == api.FFace }

// spot is where a method stands: its class, its place among that one's Methods.
type spot struct {
	*class
	place int
}

func (s spot) static() bool { return s.Methods[s.place].Flags == api.FStatic }

func (s spot) abstract() bool { return s.Methods[s.place].Flags == api.FAbstract }

// nearest is the method of the first of some classes that has such a one.
func nearest(h heading, l ...*class) (spot, bool) {
	for _, c := range l {
		if i, found := c.places[h]; found {
			return spot{c, i}, true
		}
	}
	return spot{}, false
}

func named(name string, l []*class) bool {
	return slices.ContainsFunc(l, func(c *class) bool { return c.Name == name })
}

func namesOf(l []*class) []string {
	var names []string
	for _, c := range l {
		names = append(names, c.Name)
	}
	return names
}

// shelf is classes, as they came and by their names.
type shelf struct {
	classes []*class
	byName  map[string]*class
	first   int // the number of the first one that a module brought
}

func (s *shelf) has(name string) bool { return s.byName[name] != nil }

func (s *shelf) added() []*class { return s.classes[s.first:] }

func (s *shelf) put(from *origin, l ...api.Class) {
	if s.byName == nil {
		s.byName = map[string]*class{}
	}
	for _, x := range l {
		c := newClass(from, x)
		s.classes = append(s.classes, c)
		s.byName[c.Name] = c
	}
}

// namedInPool are the classes that the entries of a pool name.
func namedInPool(entries []api.Entry) []string {
	var l []api.Type
	for i, e := range entries {
		switch e.Kind {
		case api.CClass:
			name, _ := pool.Class(entries, i)
			l = append(l, api.Type{Name: name})
		case api.CType:
			t, _ := pool.Type(entries, i)
			l = append(l, t)
		case api.CField:
			_, _, t, _ := pool.Field(entries, i)
			l = append(l, t)
		case api.CMethod:
			_, _, g, _ := pool.Method(entries, i)
			l = append(append(l, g.Params...), g.Result)
		}
	}
	return desc.Classes(l...)
}

// namedInClass are those that the types of its fields name, the signatures and handlers of its methods.
func namedInClass(c *class) []string {
	var l []api.Type
	for _, f := range c.Fields {
		l = append(l, f.Type)
	}
	for _, m := range c.Methods {
		l = append(append(l, m.Sig.Params...), m.Sig.Result)
		for _, h := range m.Handlers {
			l = append(l, api.Type{Name: h.Class})
		}
	}
	return desc.Classes(l...)
}
