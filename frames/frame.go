package frames

import (
	"slices"

	"keystone/api"
	"keystone/hier"
	"keystone/lattice"
)

// constructor is the name of the methods that begin with an object that is not initialised.
const constructor = "<init>"

// frame is api's, with what is asked of it and done to it.
type frame struct{ api.Frame }

// object is knowledge of an object of a class, whatever its name: by lattice.Of none would be a number.
func object(class string) api.VType {
	return api.VType{Kind: api.VRef, Type: api.Type{Name: class}}
}

// firstOf is what is known where a method of a class begins.
func firstOf(class string, m api.Method) frame {
	f := frame{api.Frame{Self: api.VType{Kind: api.VTop}}}
	own := object(class)
	if m.Name == constructor {
		own.Kind = api.VSelf
		f.Self = own
	}
	if m.Flags != api.FStatic {
		f.Locals = append(f.Locals, own)
	}
	for _, t := range m.Sig.Params {
		f.Locals = append(f.Locals, lattice.Of(t))
	}
	for len(f.Locals) < m.Locals {
		f.Locals = append(f.Locals, api.VType{Kind: api.VTop})
	}
	return f
}

func (f frame) reached() bool { return f.Self.Kind != api.VNone }

// alike tells whether two frames have equally many places of each sort.
func (f frame) alike(g frame) bool {
	return len(f.Locals) == len(g.Locals) && len(f.Stack) == len(g.Stack)
}

// beside tells whether two frames are alike, and each place of the one stands to that of the other one as is asked.
func (f frame) beside(g frame, stands func(a, b api.VType) bool) bool {
	return stands(f.Self, g.Self) && slices.EqualFunc(f.Locals, g.Locals, stands) && slices.EqualFunc(f.Stack, g.Stack, stands)
}

func (f frame) twin() frame {
	f.Locals, f.Stack = apart(f.Locals), apart(f.Stack)
	return f
}

// apart is a copy of a row that keeps nothing of it, not even where it is empty.
func apart(row []api.VType) []api.VType { return append([]api.VType(nil), row...) }

// replace writes over a frame that nobody else has.
func (f *frame) replace(from, to api.VType) {
	if f.Self == from {
		f.Self = to
	}
	for _, row := range [][]api.VType{f.Locals, f.Stack} {
		for i, a := range row {
			if a == from {
				row[i] = to
			}
		}
	}
}

// meeting is where ways meet: the frame of all that came there so far.
type meeting struct {
	frame
	world *hier.World
}

// take lets one more way come; one that is not reached brings nothing.
func (m *meeting) take(f frame) api.Errno {
	switch {
	case !f.reached():
		return api.OK
	case !m.reached():
		m.frame = f.twin()
		return api.OK
	case !m.alike(f):
		return api.ErrJoin
	}
	m.Self = lattice.Join(m.world, m.Self, f.Self)
	m.raise(m.Locals, f.Locals)
	m.raise(m.Stack, f.Stack)
	return api.OK
}

// raise writes over a row of the meeting's own, with one that is as long.
func (m *meeting) raise(row, other []api.VType) {
	for i, a := range other {
		row[i] = lattice.Join(m.world, row[i], a)
	}
}
