package instr_test

import (
	"bytes"
	"math"
	"math/rand"
	"slices"
	"testing"

	"keystone/api"
	"keystone/instr"
)

// The examples of the chapter.
func TestExamples(t *testing.T) {
	encodes(t, []byte{0x01, 0x01, 0x02, 0x2B}, api.OK, api.Instr{Op: api.INumber, N: 258}, api.Instr{Op: api.IGive})
	if n := instr.Size(api.ILoad); n != 2 {
		t.Errorf("Size(ILoad): %d", n)
	}
	decodes(t, []byte{0x01, 0x01}, 0, api.Instr{}, api.ErrCut)
	reads(t, []byte{0xFF}, nil, 0, api.ErrOp)
}

// P405: each instruction that can be written, all numbers of it, is read again.
func TestDecodeOfEncode(t *testing.T) {
	for op := range 46 {
		size := instr.Size(op)
		for n := range 1 << (8 * (size - 1)) {
			b, e := instr.Encode(api.Instr{Op: op, N: n})
			if len(b) != size || e != api.OK {
				t.Fatalf("%d, %d: %x, %v", op, n, b, e)
			}
			decodes(t, b, 0, api.Instr{Op: op, N: n, Size: size}, api.OK)
		}
	}
}

// P405: All of Encode tells the same operations and numbers, each at its place.
func TestAllOfEncode(t *testing.T) {
	r := rand.New(rand.NewSource(405))
	for range 5000 {
		var l, want []api.Instr
		at := 0
		for range r.Intn(40) {
			op := r.Intn(46)
			size := rowOf(op).bytes
			n := r.Intn(1 << (8 * (size - 1)))
			l = append(l, api.Instr{At: r.Intn(9), Op: op, N: n, Size: r.Intn(9)})
			want = append(want, api.Instr{At: at, Op: op, N: n, Size: size})
			at += size
		}
		b, e := instr.Encode(l...)
		if len(b) != at || e != api.OK {
			t.Fatalf("%v: %x, %v", l, b, e)
		}
		reads(t, b, want, 0, api.OK)
	}
}

// P405: Encode of All is the code; no other code is read so.
func TestEncodeOfAll(t *testing.T) {
	r := rand.New(rand.NewSource(406))
	whole := 0
	for range 100000 {
		code := make([]byte, r.Intn(12))
		for i := range code {
			code[i] = byte(r.Intn(48))
		}
		l, _, e := instr.All(code)
		if e == api.OK {
			whole++
			encodes(t, code, api.OK, l...)
		}
	}
	if whole < 10000 {
		t.Errorf("only %d were whole", whole)
	}
}

// P1, P3, P4: no call panics, whatever it is handed; handed the same it answers the same.
func TestNoPanic(t *testing.T) {
	r := rand.New(rand.NewSource(401))
	numbers := []int{math.MinInt, -65536, -1, 0, 1, 3, 45, 46, 255, 256, 65535, 65536, math.MaxInt}
	some := func() int { return numbers[r.Intn(len(numbers))] }
	for range 20000 {
		code := make([]byte, r.Intn(20))
		r.Read(code)
		entries := make([]api.Entry, r.Intn(6))
		for i := range entries {
			entries[i] = api.Entry{Kind: r.Intn(9) - 1, Text: string(code), N: int64(some()), A: some(), B: some(), C: some()}
		}
		i := api.Instr{At: some(), Op: some(), N: some(), Size: some()}
		instr.Next(i)
		instr.Name(some())
		instr.Size(some())
		instr.Op(string(code))
		at, locals := some(), some()
		if x, e := instr.Decode(code, at); e != api.OK && x != (api.Instr{}) {
			t.Errorf("%v, %v", x, e)
		}
		b, e := instr.Encode(i, i)
		c, f := instr.Encode(i, i)
		if !bytes.Equal(b, c) || e != f || e != api.OK && len(b) > 0 {
			t.Errorf("%v: %x, %v and %x, %v", i, b, e, c, f)
		}
		l, p, e := instr.All(code)
		reads(t, code, l, p, e)
		p, e = instr.Check(code, entries, locals)
		checked(t, code, entries, locals, p, e)
	}
}

// P1: entries of all kinds that tell wrong numbers, by all operations.
func TestNoPanicOfEntries(t *testing.T) {
	numbers := []int{math.MinInt, -1, 0, 1, 2, 3, 4096, math.MaxInt}
	for kind := -1; kind < 9; kind++ {
		for _, a := range numbers {
			for _, b := range numbers {
				l := []api.Entry{{Kind: kind, A: a, B: b, C: a}, {Kind: api.CText, Text: "A"}, {Kind: api.CClass, A: a}, {Kind: kind, A: b}}
				for op := range 46 {
					for n := range 5 {
						code := spell(api.Instr{Op: op, N: n})
						at, e := checkAll(code, l, 0)
						checked(t, code, l, 0, at, e)
					}
				}
			}
		}
	}
}

// P2: what is handed in is not changed, its spare room neither.
func TestNothingIsChanged(t *testing.T) {
	code := []byte{1, 0, 0, 3, 1, 25, 0, 1, 41, 0, 7, 19, 0, 0, 42, 255, 7, 7}
	entries := somePool()
	l := []api.Instr{{At: 5, Op: api.INumber, N: 258, Size: 9}, {Op: api.ILoad, N: 3, At: -1}, {Op: api.IGive, Size: 1}, {Op: 99}, {At: 7, Op: 7, N: 7, Size: 7}}
	for n := range len(code) {
		c, p, i := slices.Clone(code), slices.Clone(entries), slices.Clone(l)
		instr.All(c[:n])
		instr.Check(c[:n], p[:min(n, len(p)-1)], 2)
		for at := range n {
			instr.Decode(c[:n], at)
		}
		instr.Encode(i[:n%len(i)]...)
		if !bytes.Equal(c, code) || !slices.Equal(p, entries) || !slices.Equal(i, l) {
			t.Fatalf("%d: %x, %v, %v", n, c, p, i)
		}
	}
}

// spoil writes over a list, its spare room too.
func spoil[T any](l []T, x T) {
	l = l[:cap(l)]
	for i := range l {
		l[i] = x
	}
}

// P2: answers are new memory: what is written to one, and to its spare room, is seen nowhere else.
func TestAnswersAreNew(t *testing.T) {
	code := []byte{1, 1, 2, 3, 9, 19, 0, 0, 42}
	all := []api.Instr{{Op: 1, N: 258, Size: 3}, {At: 3, Op: 3, N: 9, Size: 2}, {At: 5, Op: 19, Size: 3}, {At: 8, Op: 42, Size: 1}}
	l, _, _ := instr.All(code)
	m, _, _ := instr.All(code)
	spoil(l, api.Instr{At: -7, Op: -7, N: -7, Size: -7})
	if !slices.Equal(m, all) || !bytes.Equal(code, []byte{1, 1, 2, 3, 9, 19, 0, 0, 42}) {
		t.Errorf("%v, %x", m, code)
	}
	reads(t, code, all, 0, api.OK)
	b, _ := instr.Encode(m...)
	c, _ := instr.Encode(m...)
	spoil(b, 77)
	if !bytes.Equal(c, code) || !slices.Equal(m, all) {
		t.Errorf("%x, %v", c, m)
	}
	for op := range 46 {
		i := api.Instr{At: 3, Op: op, N: 99, Size: 3}
		x, y := instr.Next(i), instr.Next(i)
		spoil(x, -7)
		if !slices.Equal(y, nextOf(i)) {
			t.Errorf("Next(%v): %v", i, y)
		}
		goesOn(t, i, nextOf(i)...)
	}
}

// P2: nothing of what was handed in is kept: it may be written over behind the call.
func TestNothingIsKept(t *testing.T) {
	code := []byte{3, 9, 42}
	l, _, _ := instr.All(code)
	i, _ := instr.Decode(code, 0)
	spoil(code, 1)
	if !slices.Equal(l, []api.Instr{{Op: 3, N: 9, Size: 2}, {At: 2, Op: 42, Size: 1}}) || i != (api.Instr{Op: 3, N: 9, Size: 2}) {
		t.Errorf("%v, %v", l, i)
	}
	b, _ := instr.Encode(l...)
	spoil(l, api.Instr{})
	if !bytes.Equal(b, []byte{3, 9, 42}) {
		t.Errorf("%x", b)
	}
}

// P2: no list and an empty one are the same.
func TestNoListIsAnEmptyOne(t *testing.T) {
	for _, code := range [][]byte{nil, {}, make([]byte, 0, 9)} {
		reads(t, code, nil, 0, api.OK)
		checked(t, code, nil, 1, 0, api.ErrEnd)
		decodes(t, code, 0, api.Instr{}, api.ErrCut)
	}
	for _, l := range [][]api.Instr{nil, {}, make([]api.Instr, 0, 9)} {
		encodes(t, nil, api.OK, l...)
	}
	for _, p := range [][]api.Entry{nil, {}, make([]api.Entry, 0, 9)} {
		checked(t, []byte{0}, p, 0, 0, api.OK)
		checked(t, []byte{1, 0, 0}, p, 0, 0, api.ErrEntry)
	}
}
