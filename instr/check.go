package instr

import (
	"keystone/api"
	"keystone/desc"
	"keystone/pool"
)

// constructor is the method's name that `init` alone may call.
const constructor = "<init>"

// Check tells whether code fits a pool and so many locals: the place that is wrong.
func Check(code []byte, pool []api.Entry, locals int) (int, api.Errno) {
	if len(code) == 0 {
		return 0, api.ErrEnd
	}
	if len(code) > api.MaxCode {
		return 0, api.ErrLong
	}
	l, at, err := All(code)
	if err != api.OK {
		return at, err
	}
	b := bounds{entries: pool, locals: locals, begins: make([]bool, len(code))}
	for _, i := range l {
		b.begins[i.At] = true
	}
	for _, i := range l {
		if err := b.wrong(i); err != api.OK {
			return i.At, err
		}
	}
	return 0, api.OK
}

// bounds are what the numbers of a method's instructions must keep to: begins says of each place whether an instruction begins there.
type bounds struct {
	entries []api.Entry
	locals  int
	begins  []bool
}

// wrong tells what is wrong with the number of an instruction that Decode told, so that it is 0 or more.
func (b bounds) wrong(i api.Instr) api.Errno {
	var err api.Errno
	switch rowOf(i.Op) {
	case local:
		if i.N >= b.locals {
			err = api.ErrLocal
		}
	case place:
		if i.N >= len(b.begins) || !b.begins[i.N] {
			err = api.ErrTarget
		}
	case number:
		_, err = pool.Number(b.entries, i.N)
	case class:
		_, err = pool.Class(b.entries, i.N)
	case field:
		_, _, _, err = pool.Field(b.entries, i.N)
	case kind:
		err = b.wrongType(i)
	case method:
		err = b.wrongMethod(i)
	}
	return err
}

// wrongType: an array is made of its elements' type, so that one of MaxDims dimensions would have one too many.
func (b bounds) wrongType(i api.Instr) api.Errno {
	t, err := pool.Type(b.entries, i.N)
	if err != api.OK {
		return err
	}
	switch i.Op {
	case api.IArray:
		if t.Dims == api.MaxDims {
			return api.ErrType
		}
	case api.ICast, api.IIs:
		if desc.Number(t) {
			return api.ErrType
		}
	}
	return api.OK
}

func (b bounds) wrongMethod(i api.Instr) api.Errno {
	_, name, sig, err := pool.Method(b.entries, i.N)
	if err != api.OK {
		return err
	}
	if (name == constructor) != (i.Op == api.IInit) {
		return api.ErrName
	}
	if i.Op == api.IInit && !sig.Void {
		return api.ErrType
	}
	return api.OK
}
