package cursor_test

import (
	"bytes"
	"math"
	"strings"
	"testing"

	"keystone/api"
	"keystone/cursor"
)

// stands holds a reader against where it must stand.
func stands(t *testing.T, what string, r *cursor.Reader, at, left int, err api.Errno) {
	t.Helper()
	if r.At() != at || r.Left() != left || r.Err() != err {
		t.Errorf("%s: at %d, left %d, %v; wanted %d, %d, %v", what, r.At(), r.Left(), r.Err(), at, left, err)
	}
}

// answersNothing makes every call that reads, and wants nothing of each.
func answersNothing(t *testing.T, what string, r *cursor.Reader) {
	t.Helper()
	if n := r.U1(); n != 0 {
		t.Errorf("%s: U1 %d", what, n)
	}
	if n := r.U2(); n != 0 {
		t.Errorf("%s: U2 %d", what, n)
	}
	if n := r.N8(); n != 0 {
		t.Errorf("%s: N8 %d", what, n)
	}
	for _, n := range []int{-1, 0, 1, math.MaxInt} {
		if b := r.Bytes(n); len(b) != 0 {
			t.Errorf("%s: Bytes(%d) %v", what, n, b)
		}
	}
	if s := r.Text(); s != "" {
		t.Errorf("%s: Text %q", what, s)
	}
}

// one is a call that reads; it tells whether its answer is nothing.
type one struct {
	name string
	call func(r *cursor.Reader) bool
}

func allReads() []one {
	return []one{
		{"U1", func(r *cursor.Reader) bool { return r.U1() == 0 }},
		{"U2", func(r *cursor.Reader) bool { return r.U2() == 0 }},
		{"N8", func(r *cursor.Reader) bool { return r.N8() == 0 }},
		{"Bytes(3)", func(r *cursor.Reader) bool { return len(r.Bytes(3)) == 0 }},
		{"Bytes(MaxInt)", func(r *cursor.Reader) bool { return len(r.Bytes(math.MaxInt)) == 0 }},
		{"Text", func(r *cursor.Reader) bool { return r.Text() == "" }},
	}
}

// P101: U1.
func TestReaderU1(t *testing.T) {
	all := make([]byte, 256)
	for i := range all {
		all[i] = byte(i)
	}
	r := cursor.NewReader(all)
	for i := range all {
		if n := r.U1(); n != i {
			t.Errorf("U1 %d, wanted %d", n, i)
		}
		stands(t, "U1", r, i+1, 255-i, api.OK)
	}
}

// P101: U2, the highest byte first, without a sign.
func TestReaderU2(t *testing.T) {
	for _, c := range []struct {
		high, low byte
		want      int
	}{{0, 0, 0}, {0, 1, 1}, {1, 0, 256}, {1, 2, 258}, {0, 255, 255}, {127, 255, 32767}, {128, 0, 32768}, {255, 0, 65280}, {255, 255, 65535}} {
		r := cursor.NewReader([]byte{c.high, c.low, 9})
		if n := r.U2(); n != c.want {
			t.Errorf("U2 of %d %d: %d, wanted %d", c.high, c.low, n, c.want)
		}
		stands(t, "U2", r, 2, 1, api.OK)
	}
}

// P101: N8, the highest byte first, in two's complement.
func TestReaderN8(t *testing.T) {
	for _, c := range []struct {
		b    []byte
		want int64
	}{
		{[]byte{0, 0, 0, 0, 0, 0, 0, 0}, 0},
		{[]byte{0, 0, 0, 0, 0, 0, 0, 1}, 1},
		{[]byte{1, 2, 3, 4, 5, 6, 7, 8}, 0x0102030405060708},
		{[]byte{0, 0, 0, 0, 128, 0, 0, 0}, 1 << 31},
		{[]byte{255, 255, 255, 255, 255, 255, 255, 255}, -1},
		{[]byte{255, 255, 255, 255, 255, 255, 255, 254}, -2},
		{[]byte{127, 255, 255, 255, 255, 255, 255, 255}, math.MaxInt64},
		{[]byte{128, 0, 0, 0, 0, 0, 0, 0}, math.MinInt64},
	} {
		r := cursor.NewReader(append(c.b, 9))
		if n := r.N8(); n != c.want {
			t.Errorf("N8 of %v: %d, wanted %d", c.b, n, c.want)
		}
		stands(t, "N8", r, 8, 1, api.OK)
	}
}

// P101: Bytes, from none up to all that are left.
func TestReaderBytes(t *testing.T) {
	r := cursor.NewReader([]byte{1, 0, 255, 4})
	if b := r.Bytes(0); len(b) != 0 {
		t.Errorf("Bytes(0) %v", b)
	}
	stands(t, "Bytes(0)", r, 0, 4, api.OK)
	if b := r.Bytes(1); !bytes.Equal(b, []byte{1}) {
		t.Errorf("Bytes(1) %v", b)
	}
	stands(t, "Bytes(1)", r, 1, 3, api.OK)
	if b := r.Bytes(3); !bytes.Equal(b, []byte{0, 255, 4}) {
		t.Errorf("Bytes(3) %v", b)
	}
	stands(t, "Bytes(3)", r, 4, 0, api.OK)
	if b := r.Bytes(0); len(b) != 0 {
		t.Errorf("Bytes(0) at the end %v", b)
	}
	stands(t, "Bytes(0) at the end", r, 4, 0, api.OK)
}

// P101: Bytes below 0 is ErrArg, at the end too.
func TestReaderBytesBelowNought(t *testing.T) {
	for _, n := range []int{-1, -2, math.MinInt} {
		r := cursor.NewReader([]byte{1, 2})
		if b := r.Bytes(n); len(b) != 0 {
			t.Errorf("Bytes(%d) %v", n, b)
		}
		stands(t, "Bytes below 0", r, 0, 2, api.ErrArg)
		answersNothing(t, "behind ErrArg", r)
		stands(t, "behind ErrArg", r, 0, 2, api.ErrArg)
		r = cursor.NewReader(nil)
		r.Bytes(n)
		stands(t, "Bytes below 0 of nothing", r, 0, 0, api.ErrArg)
	}
}

// P101: Text, of every length that a byte can say, of any bytes.
func TestReaderText(t *testing.T) {
	for _, s := range []string{"", "a", "ab", "\x00\xff\x80", "grün", strings.Repeat("x", 127), strings.Repeat("x", 128), strings.Repeat("x", 254), strings.Repeat("x", 255)} {
		b := append([]byte{byte(len(s))}, s...)
		r := cursor.NewReader(append(b, 9))
		if g := r.Text(); g != s {
			t.Errorf("Text %q, wanted %q", g, s)
		}
		stands(t, "Text", r, 1+len(s), 1, api.OK)
		r = cursor.NewReader(b)
		if g := r.Text(); g != s {
			t.Errorf("Text up to the end %q, wanted %q", g, s)
		}
		stands(t, "Text up to the end", r, 1+len(s), 0, api.OK)
	}
}

// P101: a text that is cut leaves its length unread.
func TestReaderTextCut(t *testing.T) {
	for _, b := range [][]byte{{}, {1}, {2, 'a'}, {255}, append([]byte{255}, make([]byte, 254)...)} {
		r := cursor.NewReader(b)
		if s := r.Text(); s != "" {
			t.Errorf("Text %q", s)
		}
		stands(t, "Text that is cut", r, 0, len(b), api.ErrCut)
	}
}

// P101: each call that is one byte short answers ErrCut and reads nothing.
func TestReaderCut(t *testing.T) {
	need := []int{1, 2, 8, 3, 3, 6} // by the row of allReads; a text's length is 5 here
	for i, c := range allReads() {
		for n := range need[i] {
			r := cursor.NewReader(append([]byte{7}, []byte{5, 5, 5, 5, 5, 5, 5}[:n]...))
			r.U1()
			if !c.call(r) {
				t.Errorf("%s of %d bytes answers something", c.name, n)
			}
			stands(t, c.name, r, 1, n, api.ErrCut)
		}
	}
}

// The words ahead of P101: from the first error on nothing is read, though the bytes would do, and the first error stays.
func TestReaderErrorStays(t *testing.T) {
	b := []byte{1, 1, 1, 1, 1, 1, 1, 1, 1}
	r := cursor.NewReader(b)
	r.U2()
	r.Bytes(8)
	stands(t, "Bytes(8)", r, 2, 7, api.ErrCut)
	answersNothing(t, "behind ErrCut", r)
	stands(t, "behind ErrCut", r, 2, 7, api.ErrCut)
	for _, c := range allReads() {
		r := cursor.NewReader(b)
		r.Bytes(-1)
		if !c.call(r) {
			t.Errorf("%s behind ErrArg answers something", c.name)
		}
		stands(t, c.name, r, 0, 9, api.ErrArg)
	}
}

// P102: At, Left and Err of a reader that nothing was asked yet, and asked over and over.
func TestReaderStands(t *testing.T) {
	for _, b := range [][]byte{nil, {}, {1}, {1, 2, 3}} {
		r := cursor.NewReader(b)
		for range 3 {
			stands(t, "new", r, 0, len(b), api.OK)
		}
	}
	r := cursor.NewReader([]byte{1, 0, 2, 1, 'a', 9, 9, 0, 0, 0, 0, 0, 0, 0, 3})
	r.U1()
	stands(t, "U1", r, 1, 14, api.OK)
	r.U2()
	stands(t, "U2", r, 3, 12, api.OK)
	r.Text()
	stands(t, "Text", r, 5, 10, api.OK)
	r.Bytes(2)
	stands(t, "Bytes", r, 7, 8, api.OK)
	r.N8()
	stands(t, "N8", r, 15, 0, api.OK)
	r.U1()
	stands(t, "the end", r, 15, 0, api.ErrCut)
}
