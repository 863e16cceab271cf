package verify

import (
	"slices"

	"keystone/api"
	"keystone/frames"
	"keystone/hier"
)

// throwable stands above whatever can be caught.
const throwable = "Throwable"

// site is a method that has code, and where it stands.
type site struct {
	world  *hier.World
	class  string
	number int
	api.Method
}

// sitesOf are the methods that have code of some classes, in order; a class that is not there has none.
func sitesOf(w *hier.World, classes ...string) []site {
	var l []site
	for _, name := range classes {
		c, _, _ := w.Class(name)
		for n, m := range c.Methods {
			if len(m.Code) > 0 {
				l = append(l, site{w, name, n, m})
			}
		}
	}
	return l
}

// wrong is why the method is refused, if it is.
func (s site) wrong() api.Errno {
	_, err := s.walked()
	return err
}

// walked is the walk through the method when nothing waits any more, or why there is none.
func (s site) walked() (*walk, api.Errno) {
	if slices.ContainsFunc(s.Handlers, s.idle) {
		return nil, api.ErrSuper
	}
	entry, err := frames.Entry(s.world, s.class, s.number)
	if err != api.OK {
		return nil, err
	}
	k := &walk{site: s, runs: s.runs()}
	if !k.reach(0, entry) || !k.workOff() {
		return nil, api.ErrTyping
	}
	return k, api.OK
}

// idle tells whether a handler is of a class of which nothing is ever thrown.
func (s site) idle(h api.Handler) bool { return !s.world.Above(throwable, h.Class) }
