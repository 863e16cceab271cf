package step

import (
	"slices"

	"keystone/api"
	"keystone/desc"
	"keystone/hier"
	"keystone/lattice"
)

const (
	object      = "Object"
	throwable   = "Throwable"
	constructor = "<init>"
)

// scene is where steps are done: a method of a class, and the pool of the class's module.
type scene struct {
	world   *hier.World
	entries []api.Entry
	method  api.Method
}

// sceneOf leaves the method without code, where there is no such method.
func sceneOf(w *hier.World, class string, method int) scene {
	c, entries, _ := w.Class(class)
	if method < 0 || method >= len(c.Methods) {
		return scene{world: w}
	}
	return scene{w, entries, c.Methods[method]}
}

func (c *scene) there() bool { return len(c.method.Code) > 0 }

// want is what is asked of a value that is taken: its error.
type want func(v api.VType) api.Errno

func anything(api.VType) api.Errno { return api.OK }

func (c *scene) number(v api.VType) api.Errno { return lattice.Fits(c.world, v, api.Type{}) }

func (c *scene) object(v api.VType) api.Errno {
	return lattice.Fits(c.world, v, api.Type{Name: object})
}

func (c *scene) valueOf(t api.Type) want {
	return func(v api.VType) api.Errno { return lattice.Fits(c.world, v, t) }
}

func (c *scene) objectOf(class string) want { return c.valueOf(api.Type{Name: class}) }

// arguments are the wants of a call, behind whose values others are wanted.
func (c *scene) arguments(g api.Sig, behind ...want) []want {
	var l []want
	for _, t := range slices.Backward(g.Params) {
		l = append(l, c.valueOf(t))
	}
	return append(l, behind...)
}

// element is that of an array's type. Unlike desc's it asks no more than dimensions, as a frame may hold types that are not right.
func element(t api.Type) api.Type {
	t.Dims--
	return t
}

func array(v api.VType) api.Errno {
	return arrayOf(v, func(api.Type) bool { return true })
}

func arrayOfNumbers(v api.VType) api.Errno { return arrayOf(v, desc.Number) }

func arrayOfObjects(v api.VType) api.Errno {
	return arrayOf(v, func(t api.Type) bool { return !desc.Number(t) })
}

// arrayOf tells the error of a value where an array is wanted whose element is as is asked.
func arrayOf(v api.VType, right func(element api.Type) bool) api.Errno {
	switch v.Kind {
	case api.VNil:
		return api.OK
	case api.VFresh, api.VSelf:
		return api.ErrInit
	case api.VRef:
		if v.Type.Dims > 0 && right(element(v.Type)) {
			return api.OK
		}
	}
	return api.ErrWrong
}

// raw is the want of an object that a constructor of that class may initialise.
func (c *scene) raw(class string) want {
	return func(v api.VType) api.Errno {
		switch {
		case v.Kind == api.VFresh && v.Type == api.Type{Name: class}:
			return api.OK
		case v.Kind == api.VSelf && v.Type.Dims == 0 && c.reaches(v.Type.Name, class):
			return api.OK
		}
		return api.ErrInit
	}
}

// reaches tells whether a constructor of one class may call one of the other: its own, or its Super's.
func (c *scene) reaches(own, class string) bool {
	chain := c.world.Chain(own)
	return slices.Contains(chain[:min(2, len(chain))], class)
}
