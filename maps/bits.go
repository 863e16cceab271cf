package maps

import (
	"keystone/api"
	"keystone/cursor"
)

// byteBits is how many bits a byte has.
const byteBits = 8

// bitReader reads bits, the highest of a byte first, out of the bytes of the reader that it embeds.
type bitReader struct {
	*cursor.Reader
	last byte // the byte whose bits are read
	left int  // how many of its bits, the lowest ones, are not read yet
}

// bits are the next ones; where the bytes are cut they are noughts, and the reader has the error.
func (r *bitReader) bits(n int) []bool {
	l := make([]bool, n)
	for i := range l {
		if r.left == 0 {
			r.last, r.left = byte(r.U1()), byteBits
		}
		r.left--
		l[i] = r.last>>r.left&1 == 1
	}
	return l
}

// fill leaves out the rest of a byte, and tells whether it is noughts alone.
func (r *bitReader) fill() bool {
	rest := r.last & (1<<r.left - 1)
	r.left = 0
	return rest == 0
}

// mapReader reads maps, bits and numbers by what it embeds.
type mapReader struct{ bitReader }

func (r *mapReader) next() (api.Map, api.Errno) {
	at, locals, stack := r.U2(), r.U1(), r.U1()
	m := api.Map{At: at, Locals: r.bits(locals), Stack: r.bits(stack)}
	filled := r.fill()
	if err := r.Err(); err != api.OK {
		return api.Map{}, err
	}
	if !filled {
		return api.Map{}, api.ErrArg
	}
	return m, api.OK
}

// bitWriter writes bits as a bitReader reads them, by the writer that it embeds.
type bitWriter struct {
	*cursor.Writer
	last byte // the bits that fill no byte yet, the last one the lowest
	held int  // how many these are
}

func (w *bitWriter) bits(l []bool) {
	for _, set := range l {
		w.last <<= 1
		if set {
			w.last |= 1
		}
		if w.held++; w.held == byteBits {
			w.Bytes(w.last)
			w.last, w.held = 0, 0
		}
	}
}

// fill makes a whole byte of the bits that are none yet.
func (w *bitWriter) fill() {
	if w.held > 0 {
		w.bits(make([]bool, byteBits-w.held))
	}
}

// mapWriter writes maps as a mapReader reads them.
type mapWriter struct{ bitWriter }

func (w *mapWriter) put(m api.Map) {
	w.U2(m.At)
	w.U1(len(m.Locals), len(m.Stack))
	w.bits(m.Locals)
	w.bits(m.Stack)
	w.fill()
}
