package slow

import "keystone/api"

// row is values, and what is known of each. That goes with the value where the frame copies it, not with the object: one that its constructor has given away, and then thrown, comes back as any other one, while the values that the frame had are still not initialised. So the verifier takes it, too.
type row struct {
	values []api.Value
	known  []api.VType
}

func (r row) at(n int) (api.Value, api.VType) { return r.values[n], r.known[n] }

func (r row) set(n int, v api.Value, known api.VType) { r.values[n], r.known[n] = v, known }

// learn puts new knowledge of an object wherever it was known as not initialised.
func (r row) learn(ref int64, now api.VType) {
	for i, k := range r.known {
		if (k.Kind == api.VFresh || k.Kind == api.VSelf) && r.values[i].N == ref {
			r.known[i] = now
		}
	}
}

// stack is a row that is put on and taken from at its end. What is asked of it is there: the step was let through.
type stack struct{ row }

func (s *stack) push(v api.Value, known api.VType) {
	s.values = append(s.values, v)
	s.known = append(s.known, known)
}

func (s *stack) pushNumber(n int64) { s.push(api.Value{N: n}, api.VType{Kind: api.VNum}) }

// peek is the value that stands so many places ahead of the end, 1 the last one.
func (s *stack) peek(n int) api.Value { return s.values[len(s.values)-n] }

// pop takes the last value with what is known of it, take its number alone.
func (s *stack) pop() (api.Value, api.VType) {
	last := len(s.values) - 1
	v, known := s.at(last)
	s.cut(last)
	return v, known
}

func (s *stack) take() int64 {
	v, _ := s.pop()
	return v.N
}

// drop takes so many values, in the order in which they stand. They are good till the next one is put.
func (s *stack) drop(n int) []api.Value {
	l := s.values[len(s.values)-n:]
	s.cut(len(s.values) - n)
	return l
}

// cut leaves so many places.
func (s *stack) cut(n int) { s.values, s.known = s.values[:n], s.known[:n] }

// frame is a method that is being done.
type frame struct {
	stack
	*body
	locals row
	self   api.VType
	own    int64 // the object for which a constructor was called
	place  int   // of the instruction at which it stands
}

// told is the frame of what is known.
func (f *frame) told() api.Frame {
	return api.Frame{Self: f.self, Locals: f.locals.known, Stack: f.stack.known}
}

// initialised puts what is known of an object of which an `init` of the frame has ended.
func (f *frame) initialised(ref int64, now api.VType) {
	f.stack.learn(ref, now)
	f.locals.learn(ref, now)
	if f.own == ref {
		f.self = now
	}
}
