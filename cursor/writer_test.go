package cursor_test

import (
	"bytes"
	"math"
	"strings"
	"testing"

	"keystone/api"
	"keystone/cursor"
)

// holds wants these bytes of a writer that has no error.
func holds(t *testing.T, what string, w *cursor.Writer, want ...byte) {
	t.Helper()
	b, e := w.Done()
	if !bytes.Equal(b, want) || e != api.OK || w.Len() != len(want) {
		t.Errorf("%s: %v, %v, %d bytes; wanted %v", what, b, e, w.Len(), want)
	}
}

// failed wants an error of a writer, and how many bytes it wrote ahead of it.
func failed(t *testing.T, what string, w *cursor.Writer, err api.Errno, n int) {
	t.Helper()
	b, e := w.Done()
	if len(b) != 0 || e != err || w.Len() != n {
		t.Errorf("%s: %v, %v, %d bytes; wanted %v, %d bytes", what, b, e, w.Len(), err, n)
	}
}

// P103: a writer that nothing was handed, by no call and by calls without elements.
func TestWriterOfNothing(t *testing.T) {
	w := cursor.NewWriter()
	holds(t, "new", w)
	w.U1()
	w.U2()
	w.N8()
	w.Bytes()
	w.Bytes([]byte{}...)
	w.Text()
	holds(t, "no elements", w)
}

// P103: U1.
func TestWriterU1(t *testing.T) {
	w := cursor.NewWriter()
	w.U1(0)
	w.U1(1, 127, 128, 255)
	holds(t, "U1", w, 0, 1, 127, 128, 255)
	for _, n := range []int{-1, 256, 257, 65536, math.MinInt, math.MaxInt, 1 << 32, -256} {
		w = cursor.NewWriter()
		w.U1(n)
		failed(t, "U1", w, api.ErrArg, 0)
	}
}

// P103: U2, the highest byte first.
func TestWriterU2(t *testing.T) {
	w := cursor.NewWriter()
	w.U2(258)
	w.U2(0, 255, 256, 32768, 65535)
	holds(t, "U2", w, 1, 2, 0, 0, 0, 255, 1, 0, 128, 0, 255, 255)
	for _, n := range []int{-1, 65536, 65537, math.MinInt, math.MaxInt, 1 << 32, -65536} {
		w = cursor.NewWriter()
		w.U2(n)
		failed(t, "U2", w, api.ErrArg, 0)
	}
}

// P103: N8 takes every number.
func TestWriterN8(t *testing.T) {
	w := cursor.NewWriter()
	w.N8(0x0102030405060708, -2)
	w.N8(math.MinInt64, math.MaxInt64)
	holds(t, "N8", w,
		1, 2, 3, 4, 5, 6, 7, 8,
		255, 255, 255, 255, 255, 255, 255, 254,
		128, 0, 0, 0, 0, 0, 0, 0,
		127, 255, 255, 255, 255, 255, 255, 255)
}

// P103: Bytes are just these, without a length ahead.
func TestWriterBytes(t *testing.T) {
	w := cursor.NewWriter()
	w.Bytes(9)
	w.Bytes(0, 255)
	w.Bytes([]byte{1, 2, 3}...)
	holds(t, "Bytes", w, 9, 0, 255, 1, 2, 3)
	w = cursor.NewWriter()
	long := bytes.Repeat([]byte{7}, 1000)
	w.Bytes(long...)
	holds(t, "many Bytes", w, long...)
}

// P103: Text, of up to 255 bytes.
func TestWriterText(t *testing.T) {
	w := cursor.NewWriter()
	w.Text("ab")
	w.Text("", "\x00\xff", "ü")
	holds(t, "Text", w, 2, 'a', 'b', 0, 2, 0, 255, 2, 0xc3, 0xbc)
	most := strings.Repeat("x", 255)
	w = cursor.NewWriter()
	w.Text(most)
	holds(t, "the longest text", w, append([]byte{255}, most...)...)
	for _, n := range []int{256, 257, 512, 65536} {
		w = cursor.NewWriter()
		w.Text(strings.Repeat("x", n))
		failed(t, "a text that is too long", w, api.ErrLong, 0)
	}
	w = cursor.NewWriter()
	w.Text(strings.Repeat("ü", 128)) // 128 runes, but 256 bytes
	failed(t, "bytes count, not runes", w, api.ErrLong, 0)
}

// P103: what stands ahead of the first wrong element is written, it and what stands behind it are not.
func TestWriterStopsWithinARow(t *testing.T) {
	w := cursor.NewWriter()
	w.U1(7, 256, 8)
	failed(t, "U1", w, api.ErrArg, 1)
	w = cursor.NewWriter()
	w.U2(1, 2, -1, 3)
	failed(t, "U2", w, api.ErrArg, 4)
	w = cursor.NewWriter()
	w.Text("a", "bc", strings.Repeat("x", 256), "d")
	failed(t, "Text", w, api.ErrLong, 5)
}

// P103: the first error stays, and nothing is written behind it.
func TestWriterErrorStays(t *testing.T) {
	long := strings.Repeat("x", 256)
	for _, c := range []struct {
		name string
		fail func(w *cursor.Writer)
		err  api.Errno
	}{
		{"U1", func(w *cursor.Writer) { w.U1(-1) }, api.ErrArg},
		{"U2", func(w *cursor.Writer) { w.U2(65536) }, api.ErrArg},
		{"Text", func(w *cursor.Writer) { w.Text(long) }, api.ErrLong},
	} {
		w := cursor.NewWriter()
		w.U1(1, 2)
		c.fail(w)
		failed(t, c.name, w, c.err, 2)
		for _, later := range []func(){
			func() { w.U1(1) }, func() { w.U2(1) }, func() { w.N8(1) }, func() { w.Bytes(1) }, func() { w.Text("a", "") },
			func() { w.U1(256) }, func() { w.U2(-1) }, func() { w.Text(long) },
			func() { w.U1() }, func() { w.U2() }, func() { w.N8() }, func() { w.Bytes() }, func() { w.Text() },
		} {
			later()
			failed(t, c.name+", and more", w, c.err, 2)
		}
	}
}

// P103: Done ends nothing; more is written behind it.
func TestWriterGoesOnBehindDone(t *testing.T) {
	w := cursor.NewWriter()
	w.U1(1)
	holds(t, "once", w, 1)
	holds(t, "twice", w, 1)
	w.Text("a")
	holds(t, "more", w, 1, 1, 'a')
	w.U1(300)
	failed(t, "an error behind it", w, api.ErrArg, 3)
}
