package slow

import (
	"slices"

	"keystone/api"
	"keystone/hier"
	"keystone/instr"
	"keystone/pool"
	"keystone/step"
)

const (
	constructor = "<init>"
	mostTaken   = 3  // values that an instruction takes which is no call
	mostPasses  = 64 // of an instruction that are kept
)

// body is a method that has code, or a constructor that is there from the beginning, which has none.
type body struct {
	spot
	api.Method
	sites map[int]*site // by their places
}

// site is an instruction, what its entry says, and what it was let through with.
type site struct {
	api.Instr
	entry
	takes  int // at most so many values
	passes []pass
}

// entry is what an entry of the pool says, as far as what the instruction does hangs on it. Where the world has no such member the step is refused, and nothing of it is asked.
type entry struct {
	number int64
	class  string   // of which an object is made
	kind   api.Type // of the elements of an array that is made, or of which an object is to be
	slot   int      // of a field in an object
	static member   // a field that is in none
	name   string   // of a method, and its signature
	sig    api.Sig
	target spot // the method that is named, whatever object is called
}

// body is a method, read when it is done for the first time.
func (m *Machine) body(at spot) *body {
	b, known := m.bodies[at]
	if !known {
		b = newBody(m.world, at)
		m.bodies[at] = b
	}
	return b
}

func newBody(w *hier.World, at spot) *body {
	c, l, _ := w.Class(at.class)
	b := &body{at, c.Methods[at.number], map[int]*site{}}
	code, _, _ := instr.All(b.Code)
	for _, i := range code {
		s := &site{Instr: i, entry: entryOf(w, l, i), takes: mostTaken}
		switch i.Op {
		case api.IStatic:
			s.takes = len(s.sig.Params)
		case api.ICall, api.IFace, api.IInit:
			s.takes = len(s.sig.Params) + 1
		}
		b.sites[i.At] = s
	}
	return b
}

// entryOf reads an instruction's entry, if it has one.
func entryOf(w *hier.World, l []api.Entry, i api.Instr) entry {
	var e entry
	switch i.Op {
	case api.INumber:
		e.number, _ = pool.Number(l, i.N)
	case api.INew:
		e.class, _ = pool.Class(l, i.N)
	case api.IArray, api.ICast, api.IIs:
		e.kind, _ = pool.Type(l, i.N)
	case api.IGet, api.IPut:
		class, name, t, _ := pool.Field(l, i.N)
		_, e.slot, _ = w.Field(class, name, t, false)
	case api.IGetS, api.IPutS:
		class, name, t, _ := pool.Field(l, i.N)
		f, _, _ := w.Field(class, name, t, true)
		e.static = member{f.Class, f.Name}
	case api.ICall, api.IFace, api.IStatic, api.IInit:
		var class string
		class, e.name, e.sig, _ = pool.Method(l, i.N)
		e.target.class, e.target.number, _ = w.Method(i.Op, class, e.name, e.sig)
	}
	return e
}

// pass is what was known where an instruction was let through, as far as step.Step asks it: of the Stack how high it is, and what the instruction may take.
type pass struct {
	self   api.VType
	height int
	last   []api.VType
}

func (p pass) same(q pass) bool {
	return p.height == q.height && p.self == q.self && slices.Equal(p.last, q.last)
}

// lets tells whether step.Step does an instruction in a frame. Of frames that are alike in what it asks there it is asked once, as it reads the whole class each time.
func (m *Machine) lets(f *frame, s *site) bool {
	height := len(f.stack.known)
	now := pass{f.self, height, f.stack.known[max(0, height-s.takes):]}
	if slices.ContainsFunc(s.passes, now.same) {
		return true
	}
	if _, err := step.Step(m.world, f.class, f.number, s.Instr, f.told()); err != api.OK {
		return false
	}
	if len(s.passes) == mostPasses {
		s.passes = nil
	}
	now.last = slices.Clone(now.last)
	s.passes = append(s.passes, now)
	return true
}
