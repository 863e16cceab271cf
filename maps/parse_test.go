package maps_test

import (
	"bytes"
	"math/rand"
	"slices"
	"testing"

	"keystone/api"
	"keystone/maps"
)

// parses holds what Parse tells against the words of the chapter, and, where it tells maps, Bits of them against the bytes.
func parses(t *testing.T, b []byte) api.Errno {
	t.Helper()
	want, err := plainParse(b)
	l, e := maps.Parse(b)
	if e != err || texts(l) != want {
		t.Fatalf("% X: %v, %s; wanted %v, %s", b, e, texts(l), err, want)
	}
	if again := maps.Bits(l); e == api.OK && !bytes.Equal(again, b) {
		t.Fatalf("% X: %s, again % X", b, want, again)
	}
	return e
}

// P1203: ErrCut, wherever within a map the bytes end: the first byte, the counts, the bits. Between two maps they may end.
func TestParseOfBytesThatAreCut(t *testing.T) {
	for _, s := range []string{"0 /", "3 10/1", "65535 /11111111", "7 1/11111111", "9 000000001/000000000", "0 11111111111111111/1"} {
		for _, ahead := range []string{"", "0 /\n", "5 1/\n", "0 /\n65535 11111111/1\n"} {
			first := maps.Bits(mapsOf(ahead))
			b := maps.Bits(mapsOf(ahead + s))
			for n := range len(b) + 1 {
				l, e := maps.Parse(b[:n])
				switch {
				case n == len(b):
					if e != api.OK || texts(l) != texts(mapsOf(ahead+s)) {
						t.Errorf("% X: %v, %s", b, e, texts(l))
					}
				case n > len(first):
					if e != api.ErrCut || len(l) > 0 {
						t.Errorf("% X, cut: %v, %s", b[:n], e, texts(l))
					}
				case n == len(first):
					if e != api.OK || texts(l) != texts(mapsOf(ahead)) {
						t.Errorf("% X: %v, %s", b[:n], e, texts(l))
					}
				}
			}
		}
	}
	for _, b := range [][]byte{{0}, {255}, {0, 0}, {0, 0, 0}, {0, 0, 1, 0}, {0, 0, 0, 1}, {0, 0, 8, 1, 0}, {0, 0, 255, 255}, slices.Concat([]byte{0, 0, 255, 255}, make([]byte, 63)), {0, 0, 0, 0, 0}, {0, 0, 0, 0, 0, 0, 0}, {0, 0, 0, 0, 0, 0, 0, 1}} {
		if l, e := maps.Parse(b); e != api.ErrCut || len(l) > 0 {
			t.Errorf("% X: %v, %s", b, e, texts(l))
		}
	}
	if l, e := maps.Parse(slices.Concat([]byte{0, 0, 255, 255}, make([]byte, 64))); e != api.OK || len(l) != 1 || len(l[0].Locals) != 255 || len(l[0].Stack) != 255 {
		t.Errorf("%v, %s", e, texts(l))
	}
}

// P1203: ErrArg of each bit that fills and is set; the bits of places are no error, wherever they stand.
func TestParseOfBitsThatFill(t *testing.T) {
	behind := maps.Bits(mapsOf("1 1/1"))
	for locals := range 256 {
		for stack := range 256 {
			if locals > 17 && stack > 17 && (locals < 250 || stack < 250) {
				continue
			}
			size := locals + stack
			b := maps.Bits([]api.Map{{At: 5, Locals: make([]bool, locals), Stack: make([]bool, stack)}})
			for n := range 8 * (len(b) - 4) {
				if n < size-9 && n > 9 && n != locals {
					continue
				}
				x := bytes.Clone(b)
				x[4+n/8] |= 0x80 >> (n % 8)
				for _, x := range [][]byte{x, slices.Concat(x, behind), slices.Concat(behind, x)} {
					l, e := maps.Parse(x)
					if n >= size && (e != api.ErrArg || len(l) > 0) {
						t.Fatalf("%d and %d places, bit %d: %v, %s", locals, stack, n, e, texts(l))
					}
					if n < size && (e != api.OK || !bytes.Equal(maps.Bits(l), x)) {
						t.Fatalf("%d and %d places, bit %d: %v, %s", locals, stack, n, e, texts(l))
					}
				}
			}
		}
	}
}

// P1203, P6: of both errors in one row that of the first map that has one.
func TestParseOfBothErrors(t *testing.T) {
	for _, x := range []struct {
		b   []byte
		err api.Errno
	}{
		{[]byte{0, 3, 2, 1, 0xA1, 0}, api.ErrArg},
		{[]byte{0, 3, 2, 1, 0xA1, 0, 3, 2, 1}, api.ErrArg},
		{[]byte{0, 3, 2, 1, 0xA0, 0, 3, 2, 1, 0xA1, 0}, api.ErrArg},
		{[]byte{0, 3, 2, 1, 0xA0, 0, 3, 2, 1}, api.ErrCut},
		// The bytes that are there have bits that would fill, but the last one lacks.
		{[]byte{0, 3, 9, 0, 0xFF}, api.ErrCut},
		{[]byte{0, 3, 9, 0, 0xFF, 0xFF}, api.ErrArg},
		{[]byte{0, 3, 9, 0, 0xFF, 0xFF, 0}, api.ErrArg},
		{[]byte{0, 3, 9, 0, 0xFF, 0x80, 0}, api.ErrCut},
		{[]byte{0, 3, 1, 0, 0xFF, 0, 3, 1, 0, 0xFF}, api.ErrArg},
	} {
		if l, e := maps.Parse(x.b); e != x.err || len(l) > 0 {
			t.Errorf("% X: %v, %s; wanted %v", x.b, e, texts(l), x.err)
		}
	}
}

// P1203: no bytes are no maps.
func TestParseOfNothing(t *testing.T) {
	for _, b := range [][]byte{nil, {}, make([]byte, 0, 9)} {
		if l, e := maps.Parse(b); e != api.OK || len(l) > 0 {
			t.Errorf("%v, %s", e, texts(l))
		}
		if b := maps.Bits(make([]api.Map, 0, 3)); len(b) > 0 || len(maps.Bits(nil)) > 0 {
			t.Errorf("% X", b)
		}
	}
}

// P1203: all rows of up to 7 bytes, made of a few.
func TestParseOfShortRows(t *testing.T) {
	few := []byte{0, 1, 7, 9, 0x80, 0xFF}
	met := map[api.Errno]int{}
	var grow func(b []byte)
	grow = func(b []byte) {
		met[parses(t, b)]++
		if len(b) == 7 {
			return
		}
		for _, c := range few {
			grow(append(b, c))
		}
	}
	grow(make([]byte, 0, 7))
	if met[api.OK] < 1000 || met[api.ErrCut] < 1000 || met[api.ErrArg] < 1000 || len(met) != 3 {
		t.Errorf("%v", met)
	}
}

// P1203: longer rows: maps' bytes with something about them changed.
func TestParseAtRandom(t *testing.T) {
	r := rand.New(rand.NewSource(1204))
	met := map[api.Errno]int{}
	for range 20000 {
		b := maps.Bits(someMaps(r, 1+r.Intn(4)))
		switch r.Intn(4) {
		case 0:
			b = b[:r.Intn(len(b)+1)]
		case 1:
			b[r.Intn(len(b))] ^= 1 << r.Intn(8)
		case 2:
			b = slices.Insert(b, r.Intn(len(b)+1), byte(r.Intn(256)))
		}
		met[parses(t, b)]++
	}
	if met[api.OK] < 2000 || met[api.ErrCut] < 2000 || met[api.ErrArg] < 2000 {
		t.Errorf("%v", met)
	}
}
