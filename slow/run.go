package slow

import (
	"keystone/api"
	"keystone/lattice"
)

// run is a call from outside: frames one above the other, till there is none.
type run struct {
	*Machine
	api.Result
	fuel   int
	frames []*frame
}

func (r *run) top() *frame { return r.frames[len(r.frames)-1] }

func (r *run) leave() { r.frames = r.frames[:len(r.frames)-1] }

// end ends the run though frames stand.
func (r *run) end(err api.Errno) {
	r.Err = err
	r.frames = nil
}

// step does the instruction at which the last frame stands.
func (r *run) step() {
	if r.Steps == r.fuel {
		r.end(api.ErrFuel)
		return
	}
	f := r.top()
	s, begins := f.sites[f.place]
	if !begins || !r.lets(f, s) {
		r.end(api.ErrTrap)
		return
	}
	r.Steps++
	if thrown := r.do(f, s); thrown != 0 {
		r.throw(thrown)
	}
}

// enter begins a frame; its Locals are the args, and empty ones behind.
func (r *run) enter(b *body, args ...api.Value) {
	f := &frame{body: b, self: api.VType{Kind: api.VTop}}
	f.locals = row{make([]api.Value, b.Locals), make([]api.VType, b.Locals)}
	for i := range f.locals.known {
		f.locals.known[i] = api.VType{Kind: api.VTop}
	}
	for i, v := range args {
		f.locals.values[i], f.locals.known[i] = v, r.knowledge(v)
	}
	if b.Name == constructor {
		f.self = api.VType{Kind: api.VSelf, Type: api.Type{Name: b.class}}
		f.own, f.locals.known[0] = args[0].N, f.self
	}
	r.frames = append(r.frames, f)
}

// knowledge is what is known of a value that comes into a frame from elsewhere: if it is an object, it is initialised.
func (r *run) knowledge(v api.Value) api.VType {
	switch {
	case !v.Ref:
		return api.VType{Kind: api.VNum}
	case v.N == 0:
		return api.VType{Kind: api.VNil}
	}
	t, _ := r.Type(v.N)
	return lattice.Of(t)
}

func (r *run) push(f *frame, l ...api.Value) {
	for _, v := range l {
		f.push(v, r.knowledge(v))
	}
}

// initialise is what comes of an `init` of a frame that has ended.
func (r *run) initialise(f *frame, ref int64) {
	f.initialised(ref, r.knowledge(object(ref)))
}

// call begins the frame of a method. A constructor that is there from the beginning takes none, so that depth does not matter to it.
func (r *run) call(f *frame, s *site) int64 {
	target := s.target
	if s.Op == api.ICall || s.Op == api.IFace {
		own := f.peek(s.takes).N
		if own == 0 {
			return nilError
		}
		target = r.picked(own, s.name, s.sig)
	}
	b := r.body(target)
	if len(b.Code) == 0 {
		r.initialise(f, f.take())
		f.place += s.Size
		return 0
	}
	if len(r.frames) == r.depth {
		return depthError
	}
	r.enter(b, f.drop(s.takes)...)
	return 0
}

// answer ends the last frame with the value that it gives, if it gives one.
func (r *run) answer(l ...api.Value) {
	gone := r.top()
	r.leave()
	if len(r.frames) == 0 {
		if len(l) > 0 {
			r.Value = l[0]
		}
		return
	}
	f := r.top()
	if gone.own != 0 {
		r.initialise(f, gone.own)
	}
	r.push(f, l...)
	f.place += f.sites[f.place].Size
}

// throw goes down from frame to frame till a handler takes the object.
func (r *run) throw(ref int64) {
	t, _ := r.Type(ref)
	for ; len(r.frames) > 0; r.leave() {
		f := r.top()
		h, found := r.handler(f, t.Name)
		if !found {
			continue
		}
		if f.Stack == 0 {
			r.end(api.ErrTrap)
			return
		}
		f.cut(0)
		r.push(f, object(ref))
		f.place = h.At
		return
	}
	r.Err, r.Thrown = api.ErrThrown, t.Name
}

// handler is the first one of a frame that takes an object of a class at the place where the frame stands.
func (r *run) handler(f *frame, class string) (api.Handler, bool) {
	for _, h := range f.Handlers {
		if h.From <= f.place && f.place < h.To && r.world.Above(h.Class, class) {
			return h, true
		}
	}
	return api.Handler{}, false
}
