package slow_test

import (
	"slices"

	"keystone/api"
	"keystone/desc"
	"keystone/hier"
	"keystone/instr"
	"keystone/pool"
	"keystone/step"
)

// model is a machine by the words of the chapter, with nothing made ready: code, entries and members are read each time, and step.Step is asked ahead of each step.
type model struct {
	w       *hier.World
	depth   int
	things  []thing
	statics map[string]api.Value
	frames  []*plainFrame
	result  api.Result
}

// thing is an object: its type, and what its slots hold.
type thing struct {
	t api.Type
	l []api.Value
}

// plainValue is a value in a frame. One that is not initialised leads to how it came into the frame, as do all that were copied of it there.
type plainValue struct {
	api.Value
	empty bool
	birth *birth
}

// birth is what is known of an object till an `init` of it has ended.
type birth struct {
	known api.VType
	over  bool
}

type plainFrame struct {
	class         string
	number        int
	m             api.Method
	pool          []api.Entry
	place         int
	locals, stack []plainValue
	own           plainValue // of a constructor
}

func newModel(w *hier.World, depth int) *model {
	m := &model{w: w, depth: depth, statics: map[string]api.Value{}}
	for _, name := range six {
		m.things = append(m.things, thing{t: api.Type{Name: name}})
	}
	for _, name := range w.Names() {
		c, _, _ := w.Class(name)
		for _, f := range c.Fields {
			if f.Flags == api.FStatic {
				m.statics[name+" "+f.Name] = blank(f.Type)
			}
		}
	}
	return m
}

func blank(t api.Type) api.Value { return api.Value{Ref: t != api.Type{}} }

func (m *model) typeOf(v api.Value) api.Type { return m.things[v.N-1].t }

// make is a new object, or false, if there is no room.
func (m *model) make(t api.Type, l []api.Value) (api.Value, bool) {
	if m.Stat().Bytes+16+8*len(l) > 1<<24 {
		return api.Value{}, false
	}
	m.things = append(m.things, thing{t, l})
	return obj(int64(len(m.things))), true
}

func (m *model) Static(class, name string) (api.Value, api.Errno) {
	v, there := m.statics[class+" "+name]
	if !there {
		return api.Value{}, api.ErrMember
	}
	return v, api.OK
}

func (m *model) Object(ref int64) (api.Type, []api.Value, api.Errno) {
	if ref < 1 || ref > int64(len(m.things)) {
		return api.Type{}, nil, api.ErrAddr
	}
	x := m.things[ref-1]
	return x.t, slices.Clone(x.l), api.OK
}

func (m *model) Stat() api.Stat {
	s := api.Stat{Objects: len(m.things)}
	for _, x := range m.things {
		s.Bytes += 16 + 8*len(x.l)
	}
	return s
}

// nearest is the nearest method of a name and signature in a class's chain.
func (m *model) nearest(class, name string, g api.Sig) (string, int, bool) {
	for _, up := range m.w.Chain(class) {
		c, _, _ := m.w.Class(up)
		for n, f := range c.Methods {
			if f.Name == name && desc.Same(f.Sig, g) {
				return up, n, true
			}
		}
	}
	return "", 0, false
}

func (m *model) Run(fuel int, class, name string, g api.Sig, args ...api.Value) api.Result {
	if fuel < 0 || fuel > api.MaxFuel {
		return api.Result{Err: api.ErrArg}
	}
	c, _, there := m.w.Class(class)
	if !there {
		return api.Result{Err: api.ErrNone}
	}
	owner, n, found := m.nearest(class, name, g)
	if c.Flags == api.FFace || name == "<init>" || !found {
		return api.Result{Err: api.ErrMember}
	}
	oc, _, _ := m.w.Class(owner)
	wanted := g.Params
	own := oc.Methods[n].Flags != api.FStatic
	if own {
		wanted = append([]api.Type{{Name: class}}, wanted...)
	}
	if len(args) != len(wanted) {
		return api.Result{Err: api.ErrArgs}
	}
	for i, v := range args {
		if !m.fits(v, wanted[i]) || own && i == 0 && v.N == 0 {
			return api.Result{Err: api.ErrArgs}
		}
	}
	if own {
		owner, n, _ = m.nearest(m.typeOf(args[0]).Name, name, g)
	}
	m.result, m.frames = api.Result{}, nil
	m.begin(owner, n, args...)
	for m.step(fuel) {
	}
	return m.result
}

func (m *model) fits(v api.Value, t api.Type) bool {
	if v.Ref != (t != api.Type{}) {
		return false
	}
	if !v.Ref || v.N == 0 {
		return true
	}
	own, _, e := m.Object(v.N)
	return e == api.OK && m.w.Sub(own, t)
}

func (m *model) begin(class string, n int, args ...api.Value) {
	c, l, _ := m.w.Class(class)
	f := &plainFrame{class: class, number: n, m: c.Methods[n], pool: l}
	for _, v := range args {
		f.locals = append(f.locals, plainValue{Value: v})
	}
	for len(f.locals) < f.m.Locals {
		f.locals = append(f.locals, plainValue{empty: true})
	}
	if f.m.Name == "<init>" {
		f.locals[0].birth = &birth{known: api.VType{Kind: api.VSelf, Type: api.Type{Name: class}}}
		f.own = f.locals[0]
	}
	m.frames = append(m.frames, f)
}

func (m *model) known(v plainValue) api.VType {
	switch {
	case v.empty:
		return api.VType{Kind: api.VTop}
	case !v.Ref:
		return api.VType{Kind: api.VNum}
	case v.N == 0:
		return api.VType{Kind: api.VNil}
	case v.birth != nil && !v.birth.over:
		return v.birth.known
	}
	return api.VType{Kind: api.VRef, Type: m.typeOf(v.Value)}
}

func (m *model) frameOf(f *plainFrame) api.Frame {
	k := api.Frame{Self: api.VType{Kind: api.VTop}}
	if f.m.Name == "<init>" {
		k.Self = m.known(f.own)
	}
	for _, v := range f.locals {
		k.Locals = append(k.Locals, m.known(v))
	}
	for _, v := range f.stack {
		k.Stack = append(k.Stack, m.known(v))
	}
	return k
}

func (m *model) end(e api.Errno) bool {
	m.result.Err = e
	return false
}

// step tells whether the run goes on.
func (m *model) step(fuel int) bool {
	if m.result.Steps == fuel {
		return m.end(api.ErrFuel)
	}
	f := m.frames[len(m.frames)-1]
	l, _, _ := instr.All(f.m.Code)
	at := slices.IndexFunc(l, func(i api.Instr) bool { return i.At == f.place })
	if at < 0 {
		return m.end(api.ErrTrap)
	}
	if _, e := step.Step(m.w, f.class, f.number, l[at], m.frameOf(f)); e != api.OK {
		return m.end(api.ErrTrap)
	}
	m.result.Steps++
	return m.do(f, l[at])
}

func (f *plainFrame) take() plainValue {
	v := f.stack[len(f.stack)-1]
	f.stack = f.stack[:len(f.stack)-1]
	return v
}

func (f *plainFrame) put(l ...api.Value) {
	for _, v := range l {
		f.stack = append(f.stack, plainValue{Value: v})
	}
}

// given tells whether a class has been there from the beginning.
func given(class string) bool {
	return class == "Object" || class == "Throwable" || slices.Contains(six, class)
}

func (m *model) do(f *plainFrame, i api.Instr) bool {
	next := f.place + i.Size
	switch i.Op {
	case api.ICall, api.IFace, api.IStatic, api.IInit:
		return m.call(f, i)
	case api.IReturn, api.IGive:
		var l []api.Value
		if i.Op == api.IGive {
			l = []api.Value{f.take().Value}
		}
		return m.answer(f, l...)
	case api.IThrow:
		if v := f.take(); v.N != 0 {
			return m.throw(v.Value)
		}
		return m.throw(obj(1))
	case api.IJump:
		next = i.N
	case api.IZero, api.IIsNil:
		if f.take().N == 0 {
			next = i.N
		}
	case api.IMinus:
		if f.take().N < 0 {
			next = i.N
		}
	case api.ILess, api.ISame:
		b, a := f.take().N, f.take().N
		if i.Op == api.ILess && a < b || i.Op == api.ISame && a == b {
			next = i.N
		}
	case api.IGet, api.IPut, api.IGetS, api.IPutS, api.IArray, api.INew, api.INumGet, api.INumPut, api.IRefGet, api.IRefPut, api.ILength, api.ICast, api.IIs:
		if thrown := m.object(f, i); thrown != 0 {
			return m.throw(obj(thrown))
		}
	default:
		if !m.number(f, i) {
			return m.throw(obj(4))
		}
	}
	f.place = next
	return true
}

// number does moves and numbers; false: there was a division by 0.
func (m *model) number(f *plainFrame, i api.Instr) bool {
	switch i.Op {
	case api.INumber:
		n, _ := pool.Number(f.pool, i.N)
		f.put(num(n))
	case api.INil:
		f.put(obj(0))
	case api.ILoad:
		f.stack = append(f.stack, f.locals[i.N])
	case api.IStore:
		f.locals[i.N] = f.take()
	case api.IPop:
		f.take()
	case api.IDup:
		v := f.take()
		f.stack = append(f.stack, v, v)
	case api.ISwap:
		b, a := f.take(), f.take()
		f.stack = append(f.stack, b, a)
	case api.INeg:
		f.put(num(reckonedPlainly(api.ISub, 0, f.take().N)))
	case api.IPrint:
		if n := f.take().N; len(m.result.Out) < 1024 {
			m.result.Out = append(m.result.Out, n)
		}
	case api.INop:
	default:
		b, a := f.take().N, f.take().N
		if b == 0 && (i.Op == api.IDiv || i.Op == api.IRem) {
			return false
		}
		f.put(num(reckonedPlainly(i.Op, a, b)))
	}
	return true
}

// object does what asks objects, or tells the exception that is thrown.
func (m *model) object(f *plainFrame, i api.Instr) int64 {
	slot := func(ref, n int64) *api.Value { return &m.things[ref-1].l[n] }
	t, _ := pool.Type(f.pool, i.N)
	class, name, ft, _ := pool.Field(f.pool, i.N)
	switch i.Op {
	case api.INew:
		class, _ := pool.Class(f.pool, i.N)
		var l []api.Value
		for _, s := range m.w.Layout(class) {
			l = append(l, blank(s.Type))
		}
		v, room := m.make(api.Type{Name: class}, l)
		if !room {
			return 6
		}
		f.stack = append(f.stack, plainValue{Value: v, birth: &birth{known: api.VType{Kind: api.VFresh, Type: api.Type{Name: class}, At: i.At}}})
	case api.IArray:
		n := f.take().N
		if n < 0 || n > 65536 {
			return 2
		}
		v, room := m.make(api.Type{Dims: t.Dims + 1, Name: t.Name}, slices.Repeat([]api.Value{blank(t)}, int(n)))
		if !room {
			return 6
		}
		f.put(v)
	case api.IGetS, api.IPutS:
		s, _, _ := m.w.Field(class, name, ft, true)
		if i.Op == api.IGetS {
			f.put(m.statics[s.Class+" "+s.Name])
		} else {
			m.statics[s.Class+" "+s.Name] = f.take().Value
		}
	case api.IGet, api.IPut:
		var v api.Value
		if i.Op == api.IPut {
			v = f.take().Value
		}
		ref := f.take().N
		if ref == 0 {
			return 1
		}
		_, n, _ := m.w.Field(class, name, ft, false)
		if i.Op == api.IPut {
			*slot(ref, int64(n)) = v
		} else {
			f.put(*slot(ref, int64(n)))
		}
	case api.INumGet, api.IRefGet, api.INumPut, api.IRefPut:
		var v api.Value
		puts := i.Op == api.INumPut || i.Op == api.IRefPut
		if puts {
			v = f.take().Value
		}
		n, ref := f.take().N, f.take().N
		if ref == 0 {
			return 1
		}
		if n < 0 || n >= int64(len(m.things[ref-1].l)) {
			return 2
		}
		if puts {
			*slot(ref, n) = v
		} else {
			f.put(*slot(ref, n))
		}
	case api.ILength:
		ref := f.take().N
		if ref == 0 {
			return 1
		}
		f.put(num(int64(len(m.things[ref-1].l))))
	case api.ICast:
		v := f.take()
		if v.N != 0 && !m.w.Sub(m.typeOf(v.Value), t) {
			return 3
		}
		f.stack = append(f.stack, v)
	case api.IIs:
		v, n := f.take(), int64(0)
		if v.N != 0 && m.w.Sub(m.typeOf(v.Value), t) {
			n = 1
		}
		f.put(num(n))
	}
	return 0
}

func (m *model) call(f *plainFrame, i api.Instr) bool {
	class, name, g, _ := pool.Method(f.pool, i.N)
	owner, n, _ := m.w.Method(i.Op, class, name, g)
	many := len(g.Params)
	if i.Op != api.IStatic {
		many++
	}
	from := len(f.stack) - many
	if i.Op == api.ICall || i.Op == api.IFace {
		own := f.stack[from].Value
		if own.N == 0 {
			return m.throw(obj(1))
		}
		owner, n, _ = m.nearest(m.typeOf(own).Name, name, g)
	}
	if i.Op == api.IInit && given(owner) {
		f.take().birth.over = true
		f.place += i.Size
		return true
	}
	if len(m.frames) == m.depth {
		return m.throw(obj(5))
	}
	var args []api.Value
	for _, v := range f.stack[from:] {
		args = append(args, v.Value)
	}
	m.begin(owner, n, args...)
	return true // what was taken is still there till the frame is gone, so that its object's birth is known
}

func (m *model) answer(gone *plainFrame, l ...api.Value) bool {
	m.frames = m.frames[:len(m.frames)-1]
	if len(m.frames) == 0 {
		for _, v := range l {
			m.result.Value = v
		}
		return false
	}
	f := m.frames[len(m.frames)-1]
	i, _ := instr.Decode(f.m.Code, f.place)
	_, _, g, _ := pool.Method(f.pool, i.N)
	for range g.Params {
		f.take()
	}
	if i.Op != api.IStatic {
		own := f.take()
		if i.Op == api.IInit {
			own.birth.over = true
		}
	}
	f.put(l...)
	f.place += i.Size
	return true
}

func (m *model) throw(v api.Value) bool {
	class := m.typeOf(v).Name
	for len(m.frames) > 0 {
		f := m.frames[len(m.frames)-1]
		for _, h := range f.m.Handlers {
			if h.From <= f.place && f.place < h.To && slices.Contains(m.w.Chain(class), h.Class) {
				if f.m.Stack == 0 {
					return m.end(api.ErrTrap)
				}
				f.stack = nil
				f.put(v)
				f.place = h.At
				return true
			}
		}
		m.frames = m.frames[:len(m.frames)-1]
	}
	m.result.Thrown = class
	return m.end(api.ErrThrown)
}
