package slow

import "keystone/api"

func object(ref int64) api.Value { return api.Value{Ref: true, N: ref} }

// do does an instruction that was let through, and moves the frame on; or it tells the object that is thrown, and has changed nothing that lasts.
func (r *run) do(f *frame, s *site) int64 {
	switch s.Op {
	case api.ICall, api.IFace, api.IStatic, api.IInit:
		return r.call(f, s)
	case api.IReturn:
		r.answer()
		return 0
	case api.IGive:
		r.answer(f.peek(1))
		return 0
	case api.IThrow:
		if ref := f.take(); ref != 0 {
			return ref
		}
		return nilError
	case api.IJump, api.IZero, api.IMinus, api.ILess, api.IIsNil, api.ISame:
		if jumps(f, s.Op) {
			f.place = s.N
			return 0
		}
	default:
		if thrown := r.doInRow(f, s); thrown != 0 {
			return thrown
		}
	}
	f.place += s.Size
	return 0
}

// jumps takes what is asked, and tells whether it is so.
func jumps(f *frame, op int) bool {
	if op == api.IJump {
		return true
	}
	last := f.take()
	switch op {
	case api.IMinus:
		return last < 0
	case api.ILess:
		return f.take() < last
	case api.ISame:
		return f.take() == last
	}
	return last == 0 // 0, or nil
}

// doInRow does an instruction behind which the next one comes.
func (r *run) doInRow(f *frame, s *site) int64 {
	switch s.Op {
	case api.INumber:
		f.pushNumber(s.number)
	case api.INil:
		r.push(f, object(0))
	case api.ILoad:
		f.push(f.locals.at(s.N))
	case api.IStore:
		v, known := f.pop()
		f.locals.set(s.N, v, known)
	case api.IPop:
		f.pop()
	case api.IDup:
		f.push(f.stack.at(len(f.values) - 1))
	case api.ISwap:
		v, known := f.pop()
		w, other := f.pop()
		f.push(v, known)
		f.push(w, other)
	case api.INeg:
		f.pushNumber(-f.take())
	case api.IPrint:
		r.print(f.take())
	case api.IAdd, api.ISub, api.IMul, api.IDiv, api.IRem, api.IAnd, api.IOr, api.IXor, api.IShl, api.IShr:
		return reckon(f, s.Op)
	case api.INew, api.IArray:
		return r.create(f, s)
	case api.INumGet, api.IRefGet, api.INumPut, api.IRefPut:
		return r.element(f, s.Op)
	case api.IGet, api.IPut, api.IGetS, api.IPutS:
		return r.field(f, s)
	case api.ILength, api.ICast, api.IIs:
		return r.ask(f, s)
	}
	return 0
}

func (r *run) print(n int64) {
	if len(r.Out) < api.MaxOut {
		r.Out = append(r.Out, n)
	}
}

func reckon(f *frame, op int) int64 {
	b := f.take()
	a := f.take()
	if b == 0 && (op == api.IDiv || op == api.IRem) {
		return divError
	}
	f.pushNumber(reckoned(op, a, b))
	return 0
}

func reckoned(op int, a, b int64) int64 {
	switch op {
	case api.IAdd:
		return a + b
	case api.ISub:
		return a - b
	case api.IMul:
		return a * b
	case api.IDiv:
		return a / b
	case api.IRem:
		return a % b
	case api.IAnd:
		return a & b
	case api.IOr:
		return a | b
	case api.IXor:
		return a ^ b
	case api.IShl:
		return a << (b & 63)
	}
	return a >> (b & 63)
}

func (r *run) create(f *frame, s *site) int64 {
	if s.Op == api.INew {
		ref, err := r.Make(s.class)
		if err != api.OK {
			return heapError
		}
		f.push(object(ref), api.VType{Kind: api.VFresh, Type: api.Type{Name: s.class}, At: s.At})
		return 0
	}
	n := f.take()
	if n < 0 || n > api.MaxArray {
		return boundsError
	}
	ref, err := r.Array(s.kind, int(n))
	if err != api.OK {
		return heapError
	}
	r.push(f, object(ref))
	return 0
}

func (r *run) element(f *frame, op int) int64 {
	puts := op == api.INumPut || op == api.IRefPut
	var v api.Value
	if puts {
		v, _ = f.pop()
	}
	n := f.take()
	ref := f.take()
	if ref == 0 {
		return nilError
	}
	if l, _ := r.Len(ref); n < 0 || n >= int64(l) {
		return boundsError
	}
	if puts {
		r.Put(ref, int(n), v)
		return 0
	}
	v, _ = r.Get(ref, int(n))
	r.push(f, v)
	return 0
}

func (r *run) field(f *frame, s *site) int64 {
	switch s.Op {
	case api.IGetS:
		r.push(f, r.statics[s.static])
	case api.IPutS:
		r.statics[s.static], _ = f.pop()
	case api.IGet:
		ref := f.take()
		if ref == 0 {
			return nilError
		}
		v, _ := r.Get(ref, s.slot)
		r.push(f, v)
	case api.IPut:
		v, _ := f.pop()
		ref := f.take()
		if ref == 0 {
			return nilError
		}
		r.Put(ref, s.slot, v)
	}
	return 0
}

// ask does those that ask an object of its type.
func (r *run) ask(f *frame, s *site) int64 {
	v, known := f.pop()
	switch s.Op {
	case api.ILength:
		if v.N == 0 {
			return nilError
		}
		n, _ := r.Len(v.N)
		f.pushNumber(int64(n))
	case api.ICast:
		if v.N != 0 && !r.below(v.N, s.kind) {
			return castError
		}
		f.push(v, known)
	case api.IIs:
		// nil is below no type here: there is no object 0.
		f.pushNumber(truth(r.below(v.N, s.kind)))
	}
	return 0
}

func truth(b bool) int64 {
	if b {
		return 1
	}
	return 0
}
