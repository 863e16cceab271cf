package cursor_test

import (
	"bytes"
	"math"
	"strings"
	"testing"

	"keystone/api"
	"keystone/cursor"
)

// The first example of the chapter.
func TestExampleRow(t *testing.T) {
	w := cursor.NewWriter()
	w.U2(258)
	w.Text("ab")
	b, e := w.Done()
	if !bytes.Equal(b, []byte{0x01, 0x02, 0x02, 0x61, 0x62}) || e != api.OK {
		t.Errorf("written: %v, %v", b, e)
	}
	r := cursor.NewReader(b)
	if n, s := r.U2(), r.Text(); n != 258 || s != "ab" {
		t.Errorf("read: %d, %q", n, s)
	}
	stands(t, "read", r, 5, 0, api.OK)
	if n := r.U1(); n != 0 {
		t.Errorf("U1 at the end: %d", n)
	}
	stands(t, "U1 at the end", r, 5, 0, api.ErrCut)
}

// The second example: Done answers the error alone, so that 07 was written shows by Len, and by the row without the wrong element.
func TestExampleWrong(t *testing.T) {
	w := cursor.NewWriter()
	w.U1(7)
	holds(t, "07", w, 7)
	w = cursor.NewWriter()
	w.U1(7, 256, 8)
	failed(t, "U1(7, 256, 8)", w, api.ErrArg, 1)
}

// pair writes an element, and tells whether a reader reads it again.
type pair struct {
	name  string
	write func(w *cursor.Writer)
	read  func(r *cursor.Reader) bool
}

func pairs() []pair {
	var l []pair
	for _, n := range []int{0, 1, 128, 255} {
		l = append(l, pair{"U1", func(w *cursor.Writer) { w.U1(n) }, func(r *cursor.Reader) bool { return r.U1() == n }})
	}
	for _, n := range []int{0, 255, 256, 32768, 65535} {
		l = append(l, pair{"U2", func(w *cursor.Writer) { w.U2(n) }, func(r *cursor.Reader) bool { return r.U2() == n }})
	}
	for _, n := range []int64{0, -1, 1 << 40, math.MinInt64, math.MaxInt64} {
		l = append(l, pair{"N8", func(w *cursor.Writer) { w.N8(n) }, func(r *cursor.Reader) bool { return r.N8() == n }})
	}
	for _, b := range [][]byte{nil, {0}, {1, 2, 255}, bytes.Repeat([]byte{9}, 300)} {
		l = append(l, pair{"Bytes", func(w *cursor.Writer) { w.Bytes(b...) }, func(r *cursor.Reader) bool { return bytes.Equal(r.Bytes(len(b)), b) }})
	}
	for _, s := range []string{"", "a", "\xff\x00", strings.Repeat("y", 255)} {
		l = append(l, pair{"Text", func(w *cursor.Writer) { w.Text(s) }, func(r *cursor.Reader) bool { return r.Text() == s }})
	}
	return l
}

// P104: all rows of up to three elements are read again, and nothing is left.
func TestWrittenIsReadAgain(t *testing.T) {
	l := pairs()
	for _, a := range l {
		for _, b := range l {
			for _, c := range l {
				readAgain(t, a, b, c)
			}
		}
	}
}

func readAgain(t *testing.T, l ...pair) {
	t.Helper()
	w := cursor.NewWriter()
	for _, p := range l {
		p.write(w)
	}
	b, e := w.Done()
	if e != api.OK || len(b) != w.Len() {
		t.Fatalf("written: %d bytes of %d, %v", len(b), w.Len(), e)
	}
	r := cursor.NewReader(b)
	for i, p := range l {
		if !p.read(r) {
			t.Errorf("element %d, %s, is not read again", i, p.name)
		}
	}
	stands(t, "behind all", r, len(b), 0, api.OK)
}

// P104: elements of one call, too, are read again one by one.
func TestRowIsReadAgain(t *testing.T) {
	w := cursor.NewWriter()
	var small, large []int
	for i := range 256 {
		small = append(small, i)
		large = append(large, i*257)
	}
	w.U1(small...)
	w.U2(large...)
	w.N8(-1, 0, 1)
	w.Text("x", "", "yz")
	b, _ := w.Done()
	r := cursor.NewReader(b)
	for i := range 256 {
		if n := r.U1(); n != i {
			t.Errorf("U1 %d, wanted %d", n, i)
		}
	}
	for i := range 256 {
		if n := r.U2(); n != i*257 {
			t.Errorf("U2 %d, wanted %d", n, i*257)
		}
	}
	if a, b, c := r.N8(), r.N8(), r.N8(); a != -1 || b != 0 || c != 1 {
		t.Errorf("N8 %d %d %d", a, b, c)
	}
	if a, b, c := r.Text(), r.Text(), r.Text(); a != "x" || b != "" || c != "yz" {
		t.Errorf("Text %q %q %q", a, b, c)
	}
	stands(t, "behind all", r, len(b), 0, api.OK)
}

// P1: no call panics, whatever numbers, bytes and texts it is handed, in whatever state it finds its object.
func TestNoPanic(t *testing.T) {
	numbers := []int{math.MinInt, -65536, -1, 0, 1, 2, 255, 256, 65535, 65536, math.MaxInt32, 1 << 31, math.MaxInt - 1, math.MaxInt}
	for _, b := range [][]byte{nil, {}, {0}, {255}, {3, 1, 2}, make([]byte, 9), bytes.Repeat([]byte{255}, 300)} {
		for _, n := range numbers {
			for _, m := range numbers {
				r := cursor.NewReader(b)
				if got := len(r.Bytes(n)) + len(r.Bytes(m)) + r.Left(); got != len(b) {
					t.Errorf("Bytes(%d), Bytes(%d) of %d bytes: %d in all", n, m, len(b), got)
				}
				r.U1()
				r.U2()
				r.N8()
				r.Text()
				if r.At()+r.Left() != len(b) {
					t.Errorf("at %d, left %d of %d", r.At(), r.Left(), len(b))
				}
			}
		}
	}
	for _, n := range numbers {
		w := cursor.NewWriter()
		w.U2(n)
		w.U1(n)
		w.N8(int64(n))
		w.Text(strings.Repeat("x", n&1023))
		if b, e := w.Done(); e == api.OK && len(b) != w.Len() || e != api.OK && len(b) != 0 {
			t.Errorf("%d: %d bytes, %v", n, len(b), e)
		}
	}
}

// spoil writes over a list, its spare room too.
func spoil(b []byte) {
	b = b[:cap(b)]
	for i := range b {
		b[i] ^= 0xff
	}
}

// P2: a reader does not keep what it was handed, nor reads its spare room.
func TestReaderKeepsNothing(t *testing.T) {
	b := append(make([]byte, 0, 8), 1, 2, 3)
	r := cursor.NewReader(b)
	spoil(b)
	if n := r.U2(); n != 258 {
		t.Errorf("U2 %d", n)
	}
	r.Bytes(2)
	stands(t, "spare room", r, 2, 1, api.ErrCut)
	r = cursor.NewReader(append(make([]byte, 0, 8), 2, 'a', 'b')[:2])
	if s := r.Text(); s != "" {
		t.Errorf("Text %q reaches into spare room", s)
	}
	stands(t, "spare room", r, 0, 2, api.ErrCut)
}

// P2: a reader does not change what it was handed.
func TestReaderChangesNothing(t *testing.T) {
	whole := []byte{1, 0, 2, 1, 'a', 5, 6, 7, 8}
	b := bytes.Clone(whole)
	r := cursor.NewReader(b[:7])
	r.U1()
	r.U2()
	r.Text()
	spoil(r.Bytes(1))
	spoil(r.Bytes(0))
	r.Bytes(9)
	if !bytes.Equal(b, whole) {
		t.Errorf("%v, was %v", b, whole)
	}
}

// P2: what Bytes answers is nobody else's, its spare room neither.
func TestReaderAnswersNewMemory(t *testing.T) {
	r := cursor.NewReader([]byte{1, 2, 3, 4, 5, 6})
	none := r.Bytes(0)
	a := r.Bytes(2)
	spoil(none)
	spoil(a)
	b := r.Bytes(2)
	if !bytes.Equal(b, []byte{3, 4}) {
		t.Errorf("%v", b)
	}
	spoil(a)
	if !bytes.Equal(b, []byte{3, 4}) {
		t.Errorf("two answers share memory: %v", b)
	}
	if n := r.U2(); n != 5*256+6 {
		t.Errorf("U2 %d", n)
	}
}

// P2: a writer keeps nothing of what it was handed, and changes nothing of it.
func TestWriterKeepsNothing(t *testing.T) {
	w := cursor.NewWriter()
	whole := []byte{1, 2, 3, 4, 5}
	b := bytes.Clone(whole)
	w.Bytes(b[:2]...)
	w.Bytes(9)
	w.U2(1)
	if !bytes.Equal(b, whole) {
		t.Errorf("%v, was %v", b, whole)
	}
	spoil(b)
	holds(t, "what was handed in is spoiled", w, 1, 2, 9, 0, 1)
	n := append(make([]int, 0, 4), 3, 999, 5)
	w.U1(n...)
	if n[0] != 3 || n[1] != 999 || n[2] != 5 || n[:4][3] != 0 {
		t.Errorf("%v", n[:4])
	}
}

// P2: what Done answers is nobody else's, its spare room neither.
func TestWriterAnswersNewMemory(t *testing.T) {
	w := cursor.NewWriter()
	w.Bytes(1, 2, 3)
	a, _ := w.Done()
	b, _ := w.Done()
	spoil(a)
	if !bytes.Equal(b, []byte{1, 2, 3}) {
		t.Errorf("two answers share memory: %v", b)
	}
	w.Bytes(4)
	if !bytes.Equal(b, []byte{1, 2, 3}) || len(b) < cap(b) && b[:4][3] == 4 {
		t.Errorf("an answer is written to: %v", b[:cap(b)])
	}
	spoil(b)
	holds(t, "the answers are spoiled", w, 1, 2, 3, 4)
}

// P2: no list and an empty one are the same.
func TestNoListIsAnEmptyOne(t *testing.T) {
	for _, b := range [][]byte{nil, {}, make([]byte, 0, 4)} {
		r := cursor.NewReader(b)
		stands(t, "new", r, 0, 0, api.OK)
		if len(r.Bytes(0)) != 0 {
			t.Error("Bytes(0)")
		}
		stands(t, "Bytes(0)", r, 0, 0, api.OK)
		r.U1()
		stands(t, "U1", r, 0, 0, api.ErrCut)
		w := cursor.NewWriter()
		w.Bytes(b...)
		holds(t, "Bytes", w)
	}
}

// P3, P7: objects are apart, and the same calls answer the same.
func TestObjectsAreApart(t *testing.T) {
	b := []byte{1, 2, 3}
	x, y := cursor.NewReader(b), cursor.NewReader(b)
	x.U1()
	x.Bytes(-1)
	stands(t, "the other reader", y, 0, 3, api.OK)
	if n := y.U2(); n != 258 {
		t.Errorf("U2 %d", n)
	}
	v, w := cursor.NewWriter(), cursor.NewWriter()
	v.U1(1)
	v.U1(-1)
	holds(t, "the other writer", w)
	w.U1(1)
	holds(t, "the other writer", w, 1)
}
