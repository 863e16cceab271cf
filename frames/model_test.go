package frames_test

import (
	"slices"

	"keystone/api"
	"keystone/hier"
	"keystone/lattice"
)

// sheet is a frame as one row: the numbers of its places, then what is known, Self first. None is a frame that is not reached.
type sheet struct {
	locals, stack int
	places        []api.VType
}

func sheetOf(f api.Frame) sheet {
	if f.Self.Kind == api.VNone {
		return sheet{}
	}
	return sheet{len(f.Locals), len(f.Stack), slices.Concat(row(f.Self), f.Locals, f.Stack)}
}

func (s sheet) frame() api.Frame {
	if s.places == nil {
		return api.Frame{}
	}
	return of(s.places[0], s.places[1:1+s.locals], s.places[1+s.locals:])
}

// shape tells whether two sheets have the same numbers of places.
func (s sheet) shape(o sheet) bool { return s.locals == o.locals && s.stack == o.stack }

// bookBelow is P801's Below by sheets.
func bookBelow(w *hier.World, a, b api.Frame) bool {
	x, y := sheetOf(a), sheetOf(b)
	if x.places == nil || y.places == nil {
		return x.places == nil
	}
	if !x.shape(y) {
		return false
	}
	for i := range x.places {
		if !lattice.Below(w, x.places[i], y.places[i]) {
			return false
		}
	}
	return true
}

// bookJoin is P801's Join by sheets: all columns at once.
func bookJoin(w *hier.World, l []api.Frame) (api.Frame, api.Errno) {
	var reached []sheet
	for _, f := range l {
		if s := sheetOf(f); s.places != nil {
			reached = append(reached, s)
		}
	}
	if len(reached) == 0 {
		return api.Frame{}, api.OK
	}
	up := sheet{reached[0].locals, reached[0].stack, nil}
	for i := range reached[0].places {
		var column []api.VType
		for _, s := range reached {
			if !s.shape(up) {
				return api.Frame{}, api.ErrJoin
			}
			column = append(column, s.places[i])
		}
		up.places = append(up.places, lattice.Join(w, column...))
	}
	return up.frame(), api.OK
}

// bookEntry is P802's first frame, of a method with code.
func bookEntry(class string, m api.Method) api.Frame {
	var locals []api.VType
	own := top
	switch {
	case m.Name == "<init>":
		own = self(class)
		locals = row(own)
	case m.Flags == 0:
		locals = row(ref("L" + class + ";"))
	}
	for _, p := range m.Sig.Params {
		a := api.VType{Kind: api.VRef, Type: p}
		if p == (api.Type{}) {
			a = num
		}
		locals = append(locals, a)
	}
	return of(own, append(locals, slices.Repeat(row(top), m.Locals-len(locals))...), nil)
}
