package typing

import (
	"cmp"
	"slices"

	"keystone/api"
	"keystone/frames"
	"keystone/hier"
	"keystone/instr"
)

// throwable stands above whatever can be caught.
const throwable = "Throwable"

// body is a method that has code, and where it stands.
type body struct {
	world  *hier.World
	class  string
	number int
	api.Method
	list  []api.Instr
	entry api.Frame
}

// bodyFor is a method for which frames are handed in; or the number of a frame, and why there is no such method, or none that has such frames.
func bodyFor(w *hier.World, class string, number int, l []api.Frame) (body, int, api.Errno) {
	b, err := bodyOf(w, class, number)
	if err != api.OK {
		return body{}, 0, err
	}
	if len(l) != len(b.list) {
		return body{}, 0, api.ErrArg
	}
	if n := slices.IndexFunc(l, b.strange()); n >= 0 {
		return body{}, n, api.ErrArg
	}
	return b, 0, api.OK
}

func bodyOf(w *hier.World, class string, number int) (body, api.Errno) {
	entry, err := frames.Entry(w, class, number)
	if err != api.OK {
		return body{}, err
	}
	c, _, _ := w.Class(class)
	b := body{world: w, class: class, number: number, Method: c.Methods[number], entry: entry}
	if slices.ContainsFunc(b.Handlers, func(h api.Handler) bool { return !w.Above(throwable, h.Class) }) {
		return body{}, api.ErrSuper
	}
	b.list, _, _ = instr.All(b.Code)
	return b, api.OK
}

// at is the number of the instruction that begins at a place.
func (b body) at(place int) (int, bool) {
	return slices.BinarySearchFunc(b.list, place, func(i api.Instr, at int) int { return cmp.Compare(i.At, at) })
}

// covering are the handlers that cover an instruction.
func (b body) covering(i api.Instr) []api.Handler {
	var l []api.Handler
	for _, h := range b.Handlers {
		if h.From <= i.At && i.At < h.To {
			l = append(l, h)
		}
	}
	return l
}
