package typing

import (
	"slices"

	"keystone/api"
	"keystone/desc"
	"keystone/frames"
	"keystone/hier"
)

// strange is the question whether a frame is neither Frame{} nor one that the method may have.
func (b body) strange() func(f api.Frame) bool {
	wrong := wrongIn(b.world)
	return func(f api.Frame) bool {
		switch {
		case frames.Same(f, api.Frame{}):
			return false
		case len(f.Locals) != b.Locals || len(f.Stack) > b.Stack || !own(f.Self):
			return true
		}
		return wrong(f.Self) || slices.ContainsFunc(f.Locals, wrong) || slices.ContainsFunc(f.Stack, wrong)
	}
}

// own tells whether knowledge is of a kind that Self may be.
func own(v api.VType) bool {
	return v.Kind == api.VTop || v.Kind == api.VSelf || v.Kind == api.VRef
}

// wrongIn is the question whether knowledge is not right in a world.
func wrongIn(w *hier.World) func(v api.VType) bool {
	isClass := classesOf(w)
	return func(v api.VType) bool {
		switch v.Kind {
		case api.VNum, api.VNil, api.VTop:
			return v != api.VType{Kind: v.Kind}
		case api.VRef:
			// Just types that are right, and whose classes are there, are below themselves.
			return v.At != 0 || desc.Number(v.Type) || !w.Sub(v.Type, v.Type)
		case api.VFresh:
			return v.At < 0 || v.Type.Dims != 0 || !isClass(v.Type.Name)
		case api.VSelf:
			return v.At != 0 || v.Type.Dims != 0 || !isClass(v.Type.Name)
		}
		return true
	}
}

// classesOf is the question whether a name is that of a class, not of an interface. It keeps what it found, as a world tells a class with all of its module's pool, and frames name the same few over and over.
func classesOf(w *hier.World) func(name string) bool {
	flags := map[string]int{}
	return func(name string) bool {
		if _, asked := flags[name]; !asked {
			flags[name] = api.FFace
			if c, _, there := w.Class(name); there {
				flags[name] = c.Flags
			}
		}
		return flags[name] != api.FFace
	}
}
