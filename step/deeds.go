package step

import (
	"keystone/api"
	"keystone/lattice"
)

// stay is of those that leave the frame as it is: where they go on to is not asked here.
func (s *state) stay() api.Errno { return api.OK }

func (s *state) pushNumber() api.Errno {
	if err := s.misfit(); err != api.OK {
		return err
	}
	return s.turn(known(api.VNum))
}

func (s *state) pushNil() api.Errno { return s.turn(known(api.VNil)) }

func (s *state) load() api.Errno {
	if !s.local() {
		return api.ErrLocal
	}
	return s.turn(s.Locals[s.N])
}

func (s *state) store() api.Errno {
	if !s.local() {
		return api.ErrLocal
	}
	l, err := s.take(anything)
	if err != api.OK {
		return err
	}
	s.Locals[s.N] = l[0]
	return api.OK
}

// local tells whether the instruction's number is a local's.
func (s *state) local() bool { return s.N >= 0 && s.N < len(s.Locals) }

func (s *state) pop() api.Errno { return s.drop(anything) }

func (s *state) dup() api.Errno {
	l, err := s.take(anything)
	if err != api.OK {
		return err
	}
	s.push(l[0], l[0])
	return api.OK
}

func (s *state) swap() api.Errno {
	l, err := s.take(anything, anything)
	if err != api.OK {
		return err
	}
	s.push(l...)
	return api.OK
}

func (s *state) reckon() api.Errno { return s.turn(known(api.VNum), s.number, s.number) }

func (s *state) negate() api.Errno { return s.turn(known(api.VNum), s.number) }

func (s *state) useNumber() api.Errno { return s.drop(s.number) }

func (s *state) useNumbers() api.Errno { return s.drop(s.number, s.number) }

func (s *state) useObject() api.Errno { return s.drop(s.object) }

func (s *state) useObjects() api.Errno { return s.drop(s.object, s.object) }

func (s *state) create() api.Errno {
	class, err := s.classEntry()
	if err != api.OK {
		return err
	}
	c, _, there := s.world.Class(class)
	if !there {
		return api.ErrMember
	}
	if c.Flags == api.FFace || c.Flags == api.FAbstract {
		return api.ErrFace
	}
	made := api.VType{Kind: api.VFresh, Type: api.Type{Name: class}, At: s.At}
	// One that this instruction made before is another object: it could not be told from the new one.
	s.rename(made, known(api.VTop))
	return s.turn(made)
}

func (s *state) get() api.Errno {
	class, t, err := s.fieldEntry(false)
	if err != api.OK {
		return err
	}
	return s.turn(lattice.Of(t), s.objectOf(class))
}

func (s *state) put() api.Errno {
	class, t, err := s.fieldEntry(false)
	if err != api.OK {
		return err
	}
	return s.drop(s.valueOf(t), s.objectOf(class))
}

func (s *state) getStatic() api.Errno {
	_, t, err := s.fieldEntry(true)
	if err != api.OK {
		return err
	}
	return s.turn(lattice.Of(t))
}

func (s *state) putStatic() api.Errno {
	_, t, err := s.fieldEntry(true)
	if err != api.OK {
		return err
	}
	return s.drop(s.valueOf(t))
}

func (s *state) createArray() api.Errno {
	t, err := s.typeEntry()
	if err != api.OK {
		return err
	}
	t.Dims++
	return s.turn(lattice.Of(t), s.number)
}

func (s *state) numGet() api.Errno { return s.turn(known(api.VNum), s.number, arrayOfNumbers) }

func (s *state) numPut() api.Errno { return s.drop(s.number, s.number, arrayOfNumbers) }

func (s *state) refGet() api.Errno {
	l, err := s.take(s.number, arrayOfObjects)
	if err != api.OK {
		return err
	}
	from := l[1]
	if from.Kind == api.VNil {
		// Of nil nothing is ever got: what is known is the least, so that it is below whatever another array tells.
		return s.pushNil()
	}
	s.push(lattice.Of(element(from.Type)))
	return api.OK
}

// refPut asks the value last, as the array says what is wanted of it.
func (s *state) refPut() api.Errno {
	l, err := s.take(anything, anything, anything)
	if err != api.OK {
		return err
	}
	value, at, into := l[0], l[1], l[2]
	wanted := element(into.Type)
	if into.Kind == api.VNil {
		wanted = api.Type{Name: object}
	}
	return first(s.number(at), arrayOfObjects(into), lattice.Fits(s.world, value, wanted))
}

// first is the first error of some, if there is one.
func first(l ...api.Errno) api.Errno {
	for _, err := range l {
		if err != api.OK {
			return err
		}
	}
	return api.OK
}

func (s *state) length() api.Errno { return s.turn(known(api.VNum), array) }

func (s *state) cast() api.Errno {
	t, err := s.typeEntry()
	if err != api.OK {
		return err
	}
	return s.turn(lattice.Of(t), s.object)
}

func (s *state) is() api.Errno {
	if err := s.misfit(); err != api.OK {
		return err
	}
	return s.turn(known(api.VNum), s.object)
}

func (s *state) call() api.Errno {
	class, g, err := s.methodEntry()
	if err != api.OK {
		return err
	}
	return s.answer(g, s.arguments(g, s.objectOf(class))...)
}

func (s *state) callStatic() api.Errno {
	_, g, err := s.methodEntry()
	if err != api.OK {
		return err
	}
	return s.answer(g, s.arguments(g)...)
}

// answer takes what a call wants, and puts what comes back from it.
func (s *state) answer(g api.Sig, l ...want) api.Errno {
	if g.Void {
		return s.drop(l...)
	}
	return s.turn(lattice.Of(g.Result), l...)
}

func (s *state) initialise() api.Errno {
	class, g, err := s.methodEntry()
	if err != api.OK {
		return err
	}
	l, err := s.take(s.arguments(g, s.raw(class))...)
	if err != api.OK {
		return err
	}
	// The object is of its own class, though its Super's constructor may have been called.
	made := l[len(l)-1]
	s.rename(made, lattice.Of(made.Type))
	return api.OK
}

func (s *state) leave() api.Errno {
	if !s.method.Sig.Void {
		return api.ErrWrong
	}
	if s.method.Name == constructor && s.Self.Kind != api.VRef {
		return api.ErrInit
	}
	return api.OK
}

func (s *state) give() api.Errno {
	if s.method.Sig.Void {
		return api.ErrWrong
	}
	return s.drop(s.valueOf(s.method.Sig.Result))
}

func (s *state) throw() api.Errno { return s.drop(s.objectOf(throwable)) }
