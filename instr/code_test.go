package instr_test

import (
	"bytes"
	"math"
	"math/rand"
	"slices"
	"testing"

	"keystone/api"
	"keystone/instr"
)

// decodes holds Decode against what is wanted: P402.
func decodes(t *testing.T, code []byte, at int, want api.Instr, err api.Errno) {
	t.Helper()
	if i, e := instr.Decode(code, at); i != want || e != err {
		t.Errorf("Decode(%.40x, %d): %v, %v, wanted %v, %v", code, at, i, e, want, err)
	}
}

// encodes holds Encode against what is wanted: P402.
func encodes(t *testing.T, want []byte, err api.Errno, l ...api.Instr) {
	t.Helper()
	if b, e := instr.Encode(l...); !bytes.Equal(b, want) || e != err {
		t.Errorf("Encode(%.200v): %.40x, %v, wanted %.40x, %v", l, b, e, want, err)
	}
}

// reads holds All against what is wanted: P402.
func reads(t *testing.T, code []byte, want []api.Instr, at int, err api.Errno) {
	t.Helper()
	if l, p, e := instr.All(code); !slices.Equal(l, want) || p != at || e != err {
		t.Errorf("All(%.40x): %.200v, %d, %v, wanted %.200v, %d, %v", code, l, p, e, want, at, err)
	}
}

// P402: each operation, with the least and the greatest numbers, at a place between others.
func TestDecode(t *testing.T) {
	for op := range 46 {
		size := rowOf(op).bytes
		for _, hi := range []byte{0, 1, 127, 128, 255} {
			for _, lo := range []byte{0, 1, 2, 127, 128, 255} {
				n := []int{0, int(hi), int(hi)*256 + int(lo)}[size-1]
				code := append([]byte{255, 1}, []byte{byte(op), hi, lo}[:size]...)
				decodes(t, code[2:], 0, api.Instr{Op: op, N: n, Size: size}, api.OK)
				decodes(t, code, 2, api.Instr{At: 2, Op: op, N: n, Size: size}, api.OK)
				decodes(t, append(code, 255, 255), 2, api.Instr{At: 2, Op: op, N: n, Size: size}, api.OK)
			}
		}
	}
}

// P402: the number of one byte is not the one behind it, too; the number of two is the highest first.
func TestDecodeNumbers(t *testing.T) {
	code := []byte{3, 200, 19, 1, 2, 8, 9}
	decodes(t, code, 0, api.Instr{At: 0, Op: api.ILoad, N: 200, Size: 2}, api.OK)
	decodes(t, code, 2, api.Instr{At: 2, Op: api.IJump, N: 258, Size: 3}, api.OK)
	decodes(t, code, 5, api.Instr{At: 5, Op: api.IAdd, Size: 1}, api.OK)
	decodes(t, []byte{19, 255, 255}, 0, api.Instr{Op: api.IJump, N: 65535, Size: 3}, api.OK)
	decodes(t, []byte{4, 255}, 0, api.Instr{Op: api.IStore, N: 255, Size: 2}, api.OK)
}

// P402: places that are none of a byte.
func TestDecodeNoPlace(t *testing.T) {
	for _, code := range [][]byte{nil, {}, {0}, {255}, {1, 0, 0}, make([]byte, 2000)} {
		for _, at := range []int{math.MinInt, -2000, -1, len(code), len(code) + 1, len(code) + 2, 1 << 32, math.MaxInt - 1, math.MaxInt} {
			decodes(t, code, at, api.Instr{}, api.ErrCut)
		}
	}
	spare := []byte{0, 0, 0}
	decodes(t, spare[:1], 1, api.Instr{}, api.ErrCut)
	decodes(t, spare[:0], 0, api.Instr{}, api.ErrCut)
}

// P402: bytes that are no operation, whole or not.
func TestDecodeNoOperation(t *testing.T) {
	for b := 46; b < 256; b++ {
		decodes(t, []byte{byte(b)}, 0, api.Instr{}, api.ErrOp)
		decodes(t, []byte{0, byte(b), 0, 0}, 1, api.Instr{}, api.ErrOp)
	}
}

// P402: numbers that are not whole, though there is spare room behind them.
func TestDecodeCut(t *testing.T) {
	for op := range 46 {
		size := rowOf(op).bytes
		code := []byte{0, byte(op), 0, 0, 0}
		for n := 1; n < size; n++ {
			decodes(t, code[:1+n], 1, api.Instr{}, api.ErrCut)
			decodes(t, code[1:1+n], 0, api.Instr{}, api.ErrCut)
		}
	}
}

// P402: each operation, with the least and the greatest numbers that fit, and those that do not.
func TestEncode(t *testing.T) {
	for op := range 46 {
		size := rowOf(op).bytes
		room := []int{1, 256, 65536}[size-1]
		for _, n := range []int{0, 1, 127, 128, 254, 255, 256, 257, 32767, 32768, 65534, 65535, 65536, 65537, 1 << 24, 1 << 32, math.MaxInt, -1, -256, -65536, math.MinInt} {
			i := api.Instr{Op: op, N: n}
			if n < 0 || n >= room {
				encodes(t, nil, api.ErrArg, i)
				continue
			}
			encodes(t, [][]byte{{byte(op)}, {byte(op), byte(n)}, {byte(op), byte(n >> 8), byte(n)}}[size-1], api.OK, i)
		}
	}
}

// P402: At and Size are not asked.
func TestEncodeAsksNoPlace(t *testing.T) {
	for _, x := range []int{math.MinInt, -1, 0, 1, 2, 3, 4, 1 << 20, math.MaxInt} {
		encodes(t, []byte{0, 3, 7, 19, 1, 2}, api.OK, api.Instr{At: x, Size: x}, api.Instr{Op: api.ILoad, N: 7, At: -x, Size: x}, api.Instr{Op: api.IJump, N: 258, At: x, Size: -x})
	}
}

// P402, P6: the first that has an error tells its own: ErrOp ahead of ErrArg.
func TestEncodeErrors(t *testing.T) {
	for _, op := range noOperations {
		for _, n := range []int{0, 1, -1, 1 << 20} {
			encodes(t, nil, api.ErrOp, api.Instr{Op: op, N: n})
			encodes(t, nil, api.ErrOp, api.Instr{Op: api.IAdd}, api.Instr{Op: op, N: n}, api.Instr{Op: api.IAdd, N: 1})
			encodes(t, nil, api.ErrArg, api.Instr{Op: api.IAdd}, api.Instr{Op: api.IAdd, N: 1}, api.Instr{Op: op, N: n})
		}
	}
	encodes(t, nil, api.ErrArg, api.Instr{Op: api.ILoad, N: 256}, api.Instr{Op: 46})
	encodes(t, nil, api.OK)
}

// P402: many, more than a method's code may have.
func TestEncodeMany(t *testing.T) {
	l := slices.Repeat([]api.Instr{{Op: api.INumber, N: 258}, {Op: api.IStore, N: 9}, {Op: api.IPop}}, 5000)
	want := bytes.Repeat([]byte{1, 1, 2, 4, 9, 5}, 5000)
	encodes(t, want, api.OK, l...)
	all, at, e := instr.All(want)
	if len(all) != 15000 || all[14999] != (api.Instr{At: 29999, Op: api.IPop, Size: 1}) || at != 0 || e != api.OK {
		t.Errorf("%d, %d, %v", len(all), at, e)
	}
	reads(t, append(want, 1, 2), nil, 30000, api.ErrCut)
}

// P402: the instructions, each behind the one ahead.
func TestAll(t *testing.T) {
	reads(t, nil, nil, 0, api.OK)
	reads(t, []byte{}, nil, 0, api.OK)
	reads(t, []byte{0}, []api.Instr{{Size: 1}}, 0, api.OK)
	reads(t, []byte{3, 1, 19, 0, 255, 42}, []api.Instr{{Op: 3, N: 1, Size: 2}, {At: 2, Op: 19, N: 255, Size: 3}, {At: 5, Op: 42, Size: 1}}, 0, api.OK)
}

// P402: none, and the place of the first that Decode refuses.
func TestAllErrors(t *testing.T) {
	for _, x := range []struct {
		code []byte
		at   int
		err  api.Errno
	}{
		{[]byte{46}, 0, api.ErrOp}, {[]byte{255}, 0, api.ErrOp}, {[]byte{0, 46}, 1, api.ErrOp}, {[]byte{3, 46, 46}, 2, api.ErrOp}, {[]byte{1, 46, 46, 46}, 3, api.ErrOp},
		{[]byte{3}, 0, api.ErrCut}, {[]byte{1}, 0, api.ErrCut}, {[]byte{1, 0}, 0, api.ErrCut}, {[]byte{0, 0, 4}, 2, api.ErrCut}, {[]byte{3, 0, 41, 0}, 2, api.ErrCut},
		{[]byte{0, 99, 1}, 1, api.ErrOp}, {[]byte{99, 99}, 0, api.ErrOp},
	} {
		reads(t, x.code, nil, x.at, x.err)
	}
}

// P402: rows of bytes, held against the model; each answer must have been met.
func TestAllAgainstModel(t *testing.T) {
	r := rand.New(rand.NewSource(402))
	met := map[api.Errno]int{}
	for range 100000 {
		code := someCode(r)
		l, at, e := readAll(code)
		reads(t, code, l, at, e)
		met[e]++
	}
	for _, e := range []api.Errno{api.OK, api.ErrOp, api.ErrCut} {
		if met[e] < 1000 {
			t.Errorf("%v is met %d times", e, met[e])
		}
	}
}
