package step

import (
	"keystone/api"
	"keystone/frames"
	"keystone/instr"
	"keystone/pool"
)

// state is an instruction at work: its frame, and where it is done.
type state struct {
	frame
	scene
	api.Instr
}

// step does the instruction: the frame is then the one behind it.
func (s *state) step() api.Errno {
	switch {
	case !s.there():
		return api.ErrMember
	case instr.Size(s.Op) == 0:
		return api.ErrOp
	case !frames.Reached(s.Frame):
		s.Frame = api.Frame{}
		return api.OK
	}
	do := s.deed()
	if err := do(); err != api.OK {
		return err
	}
	if len(s.Stack) > s.method.Stack {
		return api.ErrOver
	}
	return api.OK
}

// deed is the method that does an operation that there is.
func (s *state) deed() func() api.Errno {
	switch s.Op {
	case api.INil:
		return s.pushNil
	case api.ILoad:
		return s.load
	case api.IStore:
		return s.store
	case api.IPop:
		return s.pop
	case api.IDup:
		return s.dup
	case api.ISwap:
		return s.swap
	case api.IAdd, api.ISub, api.IMul, api.IDiv, api.IRem, api.IAnd, api.IOr, api.IXor, api.IShl, api.IShr:
		return s.reckon
	case api.INeg:
		return s.negate
	case api.IZero, api.IMinus, api.IPrint:
		return s.useNumber
	case api.ILess:
		return s.useNumbers
	case api.IIsNil:
		return s.useObject
	case api.ISame:
		return s.useObjects
	case api.INumGet:
		return s.numGet
	case api.INumPut:
		return s.numPut
	case api.IRefGet:
		return s.refGet
	case api.IRefPut:
		return s.refPut
	case api.ILength:
		return s.length
	case api.IReturn:
		return s.leave
	case api.IGive:
		return s.give
	case api.IThrow:
		return s.throw
	case api.INop, api.IJump:
		return s.stay
	}
	return s.deedByEntry()
}

// deedByEntry is that of an operation whose number is an entry's.
func (s *state) deedByEntry() func() api.Errno {
	switch s.Op {
	case api.INumber:
		return s.pushNumber
	case api.INew:
		return s.create
	case api.IGet:
		return s.get
	case api.IPut:
		return s.put
	case api.IGetS:
		return s.getStatic
	case api.IPutS:
		return s.putStatic
	case api.IArray:
		return s.createArray
	case api.ICast:
		return s.cast
	case api.IIs:
		return s.is
	case api.IStatic:
		return s.callStatic
	case api.IInit:
		return s.initialise
	}
	return s.call
}

// misfit tells the error of the instruction's entry: what instr.Check tells of it in code that has nothing else.
func (s *state) misfit() api.Errno {
	code, err := instr.Encode(s.Instr)
	if err != api.OK {
		// What does not fit its bytes is the number of no entry.
		return api.ErrEntry
	}
	_, err = instr.Check(code, s.entries, 0)
	return err
}

func (s *state) classEntry() (string, api.Errno) {
	if err := s.misfit(); err != api.OK {
		return "", err
	}
	return pool.Class(s.entries, s.N)
}

func (s *state) typeEntry() (api.Type, api.Errno) {
	if err := s.misfit(); err != api.OK {
		return api.Type{}, err
	}
	return pool.Type(s.entries, s.N)
}

// fieldEntry tells the class that the entry names, whichever class has the field, and the field's type.
func (s *state) fieldEntry(static bool) (string, api.Type, api.Errno) {
	if err := s.misfit(); err != api.OK {
		return "", api.Type{}, err
	}
	class, name, t, _ := pool.Field(s.entries, s.N)
	_, _, err := s.world.Field(class, name, t, static)
	return class, t, err
}

// methodEntry tells the class that the entry names, whichever class has the method, and the method's signature.
func (s *state) methodEntry() (string, api.Sig, api.Errno) {
	if err := s.misfit(); err != api.OK {
		return "", api.Sig{}, err
	}
	class, name, g, _ := pool.Method(s.entries, s.N)
	_, _, err := s.world.Method(s.Op, class, name, g)
	return class, g, err
}
