// Package cursor: bytes, read and written. See doc/01-cursor.md.
package cursor

import (
	"slices"

	"keystone/api"
)

// mostText is the greatest length that the one byte ahead of a text can say.
const mostText = 255

// place is what a reader and a writer have in common: how far they came, and their first error.
type place struct {
	at  int
	err api.Errno
}

func (p *place) fine() bool { return p.err == api.OK }

func (p *place) move(n int) { p.at += n }

// fail keeps the first error only: whatever is called behind it is not done, so it has none of its own.
func (p *place) fail(e api.Errno) {
	if p.fine() {
		p.err = e
	}
}

// Reader reads bytes from the left; its first error stays.
type Reader struct {
	place
	rest []byte
}

// NewReader reads a copy, since what is handed in may be changed behind the call.
func NewReader(b []byte) *Reader { return &Reader{rest: slices.Clone(b)} }

// take answers a piece of the reader's own bytes, so it is not to be handed out as it is.
func (r *Reader) take(n int) []byte {
	if n > len(r.rest) {
		r.fail(api.ErrCut)
	}
	if !r.fine() {
		return nil
	}
	b := r.rest[:n]
	r.rest = r.rest[n:]
	r.move(n)
	return b
}

// number reads so many bytes, the highest first; none, if they are cut, which makes 0.
func (r *Reader) number(size int) uint64 {
	var n uint64
	for _, c := range r.take(size) {
		n = n<<8 | uint64(c)
	}
	return n
}

func (r *Reader) U1() int { return int(r.number(1)) }

func (r *Reader) U2() int { return int(r.number(2)) }

func (r *Reader) N8() int64 { return int64(r.number(8)) }

func (r *Reader) Bytes(n int) []byte {
	if n < 0 {
		r.fail(api.ErrArg)
		return nil
	}
	return slices.Clone(r.take(n))
}

// Text takes the length and the text at once, so that a text that is cut leaves its length unread too.
func (r *Reader) Text() string {
	n := 1
	if len(r.rest) > 0 {
		n += int(r.rest[0])
	}
	b := r.take(n)
	if len(b) == 0 {
		return ""
	}
	return string(b[1:])
}

// At tells how many bytes were read, Left how many are left, Err the first error.
func (r *Reader) At() int { return r.at }

func (r *Reader) Left() int { return len(r.rest) }

func (r *Reader) Err() api.Errno { return r.err }

// Writer writes bytes; its first error stays.
type Writer struct {
	place
	out []byte
}

func NewWriter() *Writer { return &Writer{} }

func (w *Writer) put(l ...byte) {
	if w.fine() {
		w.out = append(w.out, l...)
		w.move(len(l))
	}
}

// number writes so many bytes, the highest first.
func (w *Writer) number(n uint64, size int) {
	for shift := 8 * (size - 1); shift >= 0; shift -= 8 {
		w.put(byte(n >> shift))
	}
}

// counts writes numbers that have no sign and must find room in so many bytes.
func (w *Writer) counts(size int, l ...int) {
	for _, n := range l {
		if n < 0 || n >= 1<<(8*size) {
			w.fail(api.ErrArg)
			return
		}
		w.number(uint64(n), size)
	}
}

func (w *Writer) U1(l ...int) { w.counts(1, l...) }

func (w *Writer) U2(l ...int) { w.counts(2, l...) }

func (w *Writer) N8(l ...int64) {
	for _, n := range l {
		w.number(uint64(n), 8)
	}
}

func (w *Writer) Bytes(l ...byte) { w.put(l...) }

func (w *Writer) Text(l ...string) {
	for _, s := range l {
		if len(s) > mostText {
			w.fail(api.ErrLong)
			return
		}
		w.put(byte(len(s)))
		w.put([]byte(s)...)
	}
}

func (w *Writer) Len() int { return w.at }

// Done answers a copy, since more may be written behind it.
func (w *Writer) Done() ([]byte, api.Errno) {
	if !w.fine() {
		return nil, w.err
	}
	return slices.Clone(w.out), api.OK
}
