package typing_test

import (
	"slices"

	"keystone/api"
	"keystone/frames"
	"keystone/hier"
	"keystone/instr"
	"keystone/step"
)

// body is a method, and where it stands.
type body struct {
	w      *hier.World
	class  string
	number int
	m      api.Method
	code   []api.Instr
}

func bodyOf(w *hier.World, class string, number int) body {
	c, _, _ := w.Class(class)
	code, _, _ := instr.All(c.Methods[number].Code)
	return body{w, class, number, c.Methods[number], code}
}

// at is the number of the instruction that begins at a place, or -1.
func (b body) at(place int) int {
	return slices.IndexFunc(b.code, func(i api.Instr) bool { return i.At == place })
}

// way is where what is known goes on: to an instruction's number, or to none.
type way struct {
	to int
	f  api.Frame
}

// ways are those from an instruction in a frame, by the words of chapter 11; false, if it can't be done there.
func (b body) ways(n int, f api.Frame) ([]way, bool) {
	if !frames.Reached(f) {
		return nil, true
	}
	i := b.code[n]
	out, e := step.Step(b.w, b.class, b.number, i, f)
	if e != api.OK {
		return nil, false
	}
	var l []way
	for _, place := range instr.Next(i) {
		if b.at(place) < 0 {
			return nil, false
		}
		l = append(l, way{b.at(place), out})
	}
	for _, h := range b.m.Handlers {
		if h.From <= i.At && i.At < h.To {
			if b.m.Stack < 1 {
				return nil, false
			}
			l = append(l, way{b.at(h.At), frames.Catch(f, h.Class)})
		}
	}
	return l, true
}

// right is W9's, of a frame of the method that is reached.
func (b body) right(f api.Frame) bool {
	if len(f.Locals) != b.m.Locals || len(f.Stack) > b.m.Stack {
		return false
	}
	for _, v := range slices.Concat([]api.VType{f.Self}, f.Locals, f.Stack) {
		if !right(b.w, v) {
			return false
		}
	}
	return f.Self.Kind == api.VTop || f.Self.Kind == api.VSelf || f.Self.Kind == api.VRef
}

// right is W7's.
func right(w *hier.World, v api.VType) bool {
	there := len(w.Chain(v.Type.Name)) > 0
	class := func() bool {
		c, _, _ := w.Class(v.Type.Name)
		return v.Type.Dims == 0 && there && c.Flags != api.FFace
	}
	switch v.Kind {
	case api.VNum, api.VNil, api.VTop:
		return v == api.VType{Kind: v.Kind}
	case api.VRef:
		return v.At == 0 && v.Type.Dims >= 0 && v.Type.Dims <= 8 && (there || v.Type.Name == "" && v.Type.Dims > 0)
	case api.VFresh:
		return v.At >= 0 && class()
	case api.VSelf:
		return v.At == 0 && class()
	}
	return false
}

// check is what Check must tell, by a second, plain writing of it.
func (b body) check(l []api.Frame) told {
	for _, h := range b.m.Handlers {
		if !slices.Contains(b.w.Chain(h.Class), "Throwable") {
			return told{0, api.ErrSuper}
		}
	}
	if len(l) != len(b.code) {
		return told{0, api.ErrArg}
	}
	for n, f := range l {
		if !b.empty(f) && !b.right(f) {
			return told{n, api.ErrArg}
		}
	}
	entry, _ := frames.Entry(b.w, b.class, b.number)
	if !frames.Below(b.w, entry, l[0]) {
		return told{0, api.ErrTyping}
	}
	for n, f := range l {
		if b.empty(f) {
			continue
		}
		if e := b.checkOne(b.code[n], f, l); e != api.OK {
			return told{n, e}
		}
	}
	return told{}
}

func (b body) empty(f api.Frame) bool {
	return f.Self == api.VType{} && len(f.Locals) == 0 && len(f.Stack) == 0
}

// checkOne is what is wrong with one instruction.
func (b body) checkOne(i api.Instr, f api.Frame, l []api.Frame) api.Errno {
	out, e := step.Step(b.w, b.class, b.number, i, f)
	if e != api.OK {
		return e
	}
	for _, place := range instr.Next(i) {
		if b.at(place) < 0 {
			return api.ErrEnd
		}
		if !frames.Below(b.w, out, l[b.at(place)]) {
			return api.ErrTyping
		}
	}
	for _, h := range b.m.Handlers {
		if i.At < h.From || i.At >= h.To {
			continue
		}
		if b.m.Stack == 0 {
			return api.ErrOver
		}
		caught := api.Frame{Self: f.Self, Locals: f.Locals, Stack: []api.VType{{Kind: api.VRef, Type: api.Type{Name: h.Class}}}}
		if !frames.Below(b.w, caught, l[b.at(h.At)]) {
			return api.ErrTyping
		}
	}
	return api.OK
}

// typing tells whether frames are a typing.
func (b body) typing(l []api.Frame) bool { return b.check(l) == told{} }

// climb raises frames round by round, instruction by instruction, till they are a typing: the least one above them; false, if there is none.
func (b body) climb(l []api.Frame) ([]api.Frame, bool) {
	l = slices.Clone(l)
	entry, _ := frames.Entry(b.w, b.class, b.number)
	rose := true
	raise := func(x way) bool {
		if frames.Below(b.w, x.f, l[x.to]) {
			return true
		}
		up, e := frames.Join(b.w, l[x.to], x.f)
		l[x.to], rose = up, true
		return e == api.OK
	}
	if !raise(way{0, entry}) {
		return nil, false
	}
	for rose {
		rose = false
		for n := range l {
			ways, ok := b.ways(n, l[n])
			if !ok {
				return nil, false
			}
			for _, x := range ways {
				if !raise(x) {
					return nil, false
				}
			}
		}
	}
	return l, true
}
