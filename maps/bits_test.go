package maps_test

import (
	"bytes"
	"math"
	"math/rand"
	"slices"
	"testing"

	"keystone/api"
	"keystone/maps"
)

// The chapter's example.
func TestExample(t *testing.T) {
	l := []api.Map{{At: 3, Locals: []bool{true, false}, Stack: []bool{true}}}
	if b := maps.Bits(l); !bytes.Equal(b, []byte{0x00, 0x03, 0x02, 0x01, 0xA0}) {
		t.Errorf("% X", b)
	}
	if got, e := maps.Parse([]byte{0x00, 0x03, 0x02, 0x01, 0xA0}); e != api.OK || texts(got) != texts(l) {
		t.Errorf("%s, %v", texts(got), e)
	}
}

// P1203: maps, and their bytes.
func TestBits(t *testing.T) {
	for _, x := range []struct {
		maps string
		want []byte
	}{
		{"", nil},
		{"0 /", []byte{0, 0, 0, 0}},
		{"1 /", []byte{0, 1, 0, 0}},
		{"255 /", []byte{0, 255, 0, 0}},
		{"256 /", []byte{1, 0, 0, 0}},
		{"258 /", []byte{1, 2, 0, 0}},
		{"65535 /", []byte{255, 255, 0, 0}},
		{"65535 1/", []byte{255, 255, 1, 0, 0x80}},
		{"7 0/", []byte{0, 7, 1, 0, 0}},
		{"7 /1", []byte{0, 7, 0, 1, 0x80}},
		{"7 /0", []byte{0, 7, 0, 1, 0}},
		{"7 01/", []byte{0, 7, 2, 0, 0x40}},
		{"7 0/1", []byte{0, 7, 1, 1, 0x40}},
		{"7 /01", []byte{0, 7, 0, 2, 0x40}},
		{"7 1110001/", []byte{0, 7, 7, 0, 0xE2}},
		{"7 11100011/", []byte{0, 7, 8, 0, 0xE3}},
		{"7 111000110/", []byte{0, 7, 9, 0, 0xE3, 0}},
		{"7 111000111/", []byte{0, 7, 9, 0, 0xE3, 0x80}},
		{"7 /1110001", []byte{0, 7, 0, 7, 0xE2}},
		{"7 /11100011", []byte{0, 7, 0, 8, 0xE3}},
		{"7 /111000111", []byte{0, 7, 0, 9, 0xE3, 0x80}},
		// The last Locals and the first places of the Stack in one byte.
		{"7 00000/111", []byte{0, 7, 5, 3, 0x07}},
		{"7 11111/000", []byte{0, 7, 5, 3, 0xF8}},
		{"7 00001/1000", []byte{0, 7, 5, 4, 0x0C, 0}},
		{"7 0000000/11", []byte{0, 7, 7, 2, 0x01, 0x80}},
		{"7 00000000/1", []byte{0, 7, 8, 1, 0x00, 0x80}},
		{"7 000000001/100000001", []byte{0, 7, 9, 9, 0x00, 0xC0, 0x40}},
		// Several: each begins with a byte of its own.
		{"0 /\n0 /", []byte{0, 0, 0, 0, 0, 0, 0, 0}},
		{"1 1/\n2 /1\n1 1/", []byte{0, 1, 1, 0, 0x80, 0, 2, 0, 1, 0x80, 0, 1, 1, 0, 0x80}},
		{"9 /\n3 10/1\n9 /", []byte{0, 9, 0, 0, 0, 3, 2, 1, 0xA0, 0, 9, 0, 0}},
	} {
		l := mapsOf(x.maps)
		if b := maps.Bits(l); !bytes.Equal(b, x.want) {
			t.Errorf("%s: % X, wanted % X", x.maps, b, x.want)
		}
		if got, e := maps.Parse(x.want); e != api.OK || texts(got) != texts(l) {
			t.Errorf("% X: %v, %s", x.want, e, texts(got))
		}
	}
}

// both holds Bits and Parse of maps that fit against each other and against the words of the chapter.
func both(t *testing.T, l ...api.Map) {
	t.Helper()
	b := maps.Bits(l)
	if want := plainBits(l); !bytes.Equal(b, want) {
		t.Fatalf("%s% X, wanted % X", texts(l), b, want)
	}
	if got, e := maps.Parse(b); e != api.OK || texts(got) != texts(l) {
		t.Fatalf("%s% X: %v, %s", texts(l), b, e, texts(got))
	}
}

// P1203: none, 1 to 17 and 247 to 255 places on both lists; each one alone, all but one, all, none.
func TestBitsOfManyPlaces(t *testing.T) {
	var sizes []int
	for n := range 256 {
		if n <= 17 || n >= 247 {
			sizes = append(sizes, n)
		}
	}
	for _, locals := range sizes {
		for _, stack := range sizes {
			for _, set := range []bool{true, false} {
				bits := slices.Repeat([]bool{set}, locals+stack)
				at := locals*251 + stack
				both(t, api.Map{At: at, Locals: bits[:locals], Stack: bits[locals:]})
				for _, n := range []int{0, 6, 7, 8, 9, locals - 1, locals, locals + 1, locals + stack - 1} {
					if n >= 0 && n < len(bits) {
						bits[n] = !set
						both(t, api.Map{At: at, Locals: bits[:locals], Stack: bits[locals:]}, api.Map{At: 1, Locals: bits[:locals]}, api.Map{At: 2, Stack: bits[locals:]})
						bits[n] = set
					}
				}
			}
		}
	}
}

// P1203: all bits of up to 9 places, however they are dealt to the two lists.
func TestBitsOfFewPlaces(t *testing.T) {
	for size := range 10 {
		for n := range 1 << size {
			bits := bitsOf(binary(n, size+8)[8:])
			for locals := range size + 1 {
				both(t, api.Map{At: n, Locals: bits[:locals], Stack: bits[locals:]})
			}
		}
	}
}

// P1203: each At that fits.
func TestBitsOfEachPlace(t *testing.T) {
	var l []api.Map
	for at := range 65536 {
		l = append(l, api.Map{At: at, Stack: []bool{at%3 == 0}})
	}
	both(t, l...)
}

// tooGreat are maps whose numbers do not fit; some would, if they were cut to their bytes.
func tooGreat() []api.Map {
	var l []api.Map
	for _, at := range []int{-1, -2, -65536, -65535, 65536, 65537, 1 << 17, 1<<32 + 3, math.MinInt, math.MaxInt, math.MinInt32} {
		l = append(l, api.Map{At: at}, api.Map{At: at, Locals: bitsOf("10"), Stack: bitsOf("1")})
	}
	for _, size := range []int{256, 257, 264, 511, 512, 65535, 65536, 1 << 20} {
		for _, set := range []bool{true, false} {
			bits := slices.Repeat([]bool{set}, size)
			l = append(l, api.Map{Locals: bits}, api.Map{Stack: bits}, api.Map{At: 3, Locals: bits, Stack: bits}, api.Map{At: 65535, Locals: bitsOf("1"), Stack: bits}, api.Map{At: -1, Locals: bits})
		}
	}
	return l
}

// P1203: of maps one of which does not fit there are no bytes at all, wherever it stands.
func TestBitsThatDoNotFit(t *testing.T) {
	right := mapsOf("3 10/1\n0 /\n65535 /111111111")
	for _, m := range tooGreat() {
		for n := range len(right) + 1 {
			l := slices.Insert(slices.Clone(right), n, m)
			for _, l := range [][]api.Map{l, l[n:], l[:n+1], l[n : n+1], append(slices.Clone(l), m)} {
				if b := maps.Bits(l); len(b) > 0 {
					t.Errorf("at %d, %d locals, %d places: %d bytes", m.At, len(m.Locals), len(m.Stack), len(b))
				}
			}
		}
	}
	all := slices.Repeat([]bool{true}, 255)
	both(t, api.Map{At: 65535, Locals: all, Stack: all}, api.Map{Locals: all}, api.Map{Stack: all})
}

// P1203: rows at random, such as fit and such as do not.
func TestBitsAtRandom(t *testing.T) {
	r := rand.New(rand.NewSource(1203))
	great := tooGreat()
	none := 0
	for range 5000 {
		l := someMaps(r, r.Intn(6))
		both(t, l...)
		if r.Intn(4) == 0 {
			l = slices.Insert(l, r.Intn(len(l)+1), some(r, great, 1)[0])
			if b := maps.Bits(l); len(b) > 0 || len(plainBits(l)) > 0 {
				t.Fatalf("%s%v", texts(l), b)
			}
			none++
		}
	}
	if none < 500 {
		t.Errorf("%d only", none)
	}
}
