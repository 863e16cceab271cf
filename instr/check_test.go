package instr_test

import (
	"bytes"
	"math"
	"math/rand"
	"strings"
	"testing"

	"keystone/api"
	"keystone/instr"
	"keystone/pool"
)

// checked holds Check against what is wanted: P403.
func checked(t *testing.T, code []byte, entries []api.Entry, locals, at int, want api.Errno) {
	t.Helper()
	if i, e := instr.Check(code, entries, locals); i != at || e != want {
		t.Errorf("Check(%.40x, %d entries, %d): %d, %v, wanted %d, %v", code, len(entries), locals, i, e, at, want)
	}
}

// numbered holds Check of an instruction behind another one and ahead of a third against what is wanted.
func numbered(t *testing.T, words string, n int, entries []api.Entry, want api.Errno) {
	t.Helper()
	for _, w := range strings.Fields(words) {
		code := spell(api.Instr{Op: api.INop}, api.Instr{Op: opOf(w), N: n}, api.Instr{Op: api.IReturn})
		at := 1
		if want == api.OK {
			at = 0
		}
		checked(t, code, entries, 0, at, want)
	}
}

// P403: code without bytes, with MaxCode of them, with more.
func TestCheckLengths(t *testing.T) {
	checked(t, nil, nil, 0, 0, api.ErrEnd)
	checked(t, []byte{}, somePool(), 9, 0, api.ErrEnd)
	checked(t, make([]byte, 1), nil, 0, 0, api.OK)
	checked(t, make([]byte, 1023), nil, 0, 0, api.OK)
	checked(t, make([]byte, 1024), nil, 0, 0, api.OK)
	for _, n := range []int{1025, 1026, 2048, 65536, 1 << 20} {
		checked(t, make([]byte, n), nil, 0, 0, api.ErrLong)
		checked(t, bytes.Repeat([]byte{255}, n), nil, 0, 0, api.ErrLong)
		checked(t, append(make([]byte, n-1), 1), nil, 0, 0, api.ErrLong)
	}
	checked(t, append(make([]byte, 1023), 255), nil, 0, 1023, api.ErrOp)
	checked(t, append(make([]byte, 1023), 3), nil, 0, 1023, api.ErrCut)
	checked(t, append(make([]byte, 1022), 3, 0), nil, 0, 1022, api.ErrLocal)
}

// P403: code may end anyhow, as long as it is whole: what runs over its end is the verifier's to tell.
func TestCheckAsksNoEnd(t *testing.T) {
	checked(t, []byte{byte(api.IAdd)}, nil, 0, 0, api.OK)
	checked(t, []byte{byte(api.IJump), 0, 0}, nil, 0, 0, api.OK)
}

// P403: All's errors come ahead of those of any instruction.
func TestCheckAllFirst(t *testing.T) {
	checked(t, []byte{3, 9, 255}, nil, 0, 2, api.ErrOp)
	checked(t, []byte{3, 9, 1, 0}, nil, 0, 2, api.ErrCut)
	checked(t, []byte{19, 9, 9, 1, 0, 0, 46}, nil, 0, 6, api.ErrOp)
	checked(t, []byte{46}, nil, 0, 0, api.ErrOp)
	checked(t, []byte{4}, nil, 0, 0, api.ErrCut)
	checked(t, []byte{25, 0}, nil, 0, 0, api.ErrCut)
}

// P403: load, store.
func TestCheckLocals(t *testing.T) {
	for _, op := range []int{api.ILoad, api.IStore} {
		for _, locals := range []int{math.MinInt, -1, 0, 1, 2, 64, 128, 255, 256, 257, math.MaxInt} {
			for _, n := range []int{0, 1, 2, 63, 64, 127, 128, 254, 255} {
				code := spell(api.Instr{}, api.Instr{Op: op, N: n})
				if n < locals {
					checked(t, code, nil, locals, 0, api.OK)
				} else {
					checked(t, code, nil, locals, 1, api.ErrLocal)
				}
			}
		}
	}
}

// P403: jumps: to the beginnings of instructions, theirs and those behind too, and nowhere else.
func TestCheckTargets(t *testing.T) {
	for _, op := range []int{api.IJump, api.IZero, api.IMinus, api.ILess, api.IIsNil, api.ISame} {
		begins := map[int]struct{}{0: {}, 1: {}, 3: {}, 6: {}, 9: {}}
		for _, n := range []int{0, 1, 2, 3, 4, 5, 6, 7, 8, 9, 10, 11, 255, 256, 259, 1024, 65535} {
			code := spell(api.Instr{}, api.Instr{Op: api.ILoad}, api.Instr{Op: op, N: n}, api.Instr{Op: api.INumber}, api.Instr{})
			if _, ok := begins[n]; ok {
				checked(t, code, somePool(), 1, 0, api.OK)
			} else {
				checked(t, code, somePool(), 1, 3, api.ErrTarget)
			}
		}
	}
	long := append(make([]byte, 1021), byte(api.IJump), 3, 253)
	checked(t, long, nil, 0, 0, api.OK)
	long[1023] = 252
	checked(t, long, nil, 0, 0, api.OK)
	long[1023] = 254
	checked(t, long, nil, 0, 1021, api.ErrTarget)
	long[1022], long[1023] = 4, 0
	checked(t, long, nil, 0, 1021, api.ErrTarget)
}

// P403: the kinds of entries that operations must have, held against each kind that there is.
func TestCheckKindsOfEntries(t *testing.T) {
	b := pool.New()
	text, _ := b.Text("I")
	number, _ := b.Number(5)
	class, _ := b.Class("A")
	kind, _ := b.Type(api.Type{Dims: 1})
	field, _ := b.Field("A", "x", api.Type{})
	method, _ := b.Method("A", "f", api.Sig{Void: true})
	made, _ := b.Method("A", "<init>", api.Sig{Void: true})
	l := b.Pool()
	for _, x := range []struct {
		words string
		right int
	}{{"number", number}, {"new", class}, {"get put gets puts", field}, {"array cast is", kind}, {"call face static", method}, {"init", made}} {
		numbered(t, x.words, x.right, l, api.OK)
		for _, i := range []int{text, number, class, kind, field, method} {
			if i != x.right && !(i == method && x.right == made) {
				numbered(t, x.words, i, l, api.ErrEntry)
			}
		}
		for _, i := range []int{len(l), len(l) + 1, 256 + x.right, 4096, 65535} {
			numbered(t, x.words, i, l, api.ErrEntry)
		}
		numbered(t, x.words, 0, nil, api.ErrEntry)
		numbered(t, x.words, x.right, l[:x.right], api.ErrEntry)
	}
}

// P403: what is wrong with the entries, though the pool as a whole may be wrong elsewhere.
func TestCheckWrongEntries(t *testing.T) {
	text := func(s string) api.Entry { return api.Entry{Kind: api.CText, Text: s} }
	base := []api.Entry{text("A"), {Kind: api.CClass, A: 0}, text("I"), text("()V"), text("1"), {Kind: api.CClass, A: 4}, text("<init>"), text("(" + strings.Repeat("I", 17) + ")V"), {Kind: -1}}
	last := len(base)
	for _, x := range []struct {
		words string
		e     api.Entry
		want  api.Errno
	}{
		{"number", api.Entry{Kind: api.CNumber, N: 1}, api.OK}, {"number", api.Entry{Kind: api.CNumber, A: 1}, api.ErrArg},
		{"new", api.Entry{Kind: api.CClass, A: 4}, api.ErrName}, {"new", api.Entry{Kind: api.CClass, A: 99}, api.ErrEntry}, {"new", api.Entry{Kind: api.CClass, N: 1}, api.ErrArg}, {"new", api.Entry{Kind: api.CClass}, api.OK},
		{"get put gets puts", api.Entry{Kind: api.CField, A: 1, B: 0, C: 2}, api.OK}, {"get put gets puts", api.Entry{Kind: api.CField, A: 5, B: 0, C: 2}, api.ErrName}, {"get put gets puts", api.Entry{Kind: api.CField, A: 1, B: 0, C: 3}, api.ErrType}, {"get put gets puts", api.Entry{Kind: api.CField, A: 1, B: 6, C: 2}, api.ErrName},
		{"array cast is", api.Entry{Kind: api.CType, A: 0}, api.ErrType}, {"array cast is", api.Entry{Kind: api.CType, A: -1}, api.ErrEntry}, {"array cast is", api.Entry{Kind: api.CType, A: 2, Text: "I"}, api.ErrArg},
		{"call face static", api.Entry{Kind: api.CMethod, A: 1, B: 0, C: 3}, api.OK}, {"call face static init", api.Entry{Kind: api.CMethod, A: 5, B: 0, C: 3}, api.ErrName}, {"call face static init", api.Entry{Kind: api.CMethod, A: 1, B: 0, C: 7}, api.ErrMany},
		{"call face static init", api.Entry{Kind: api.CMethod, A: 1, B: 6, C: 2}, api.ErrType}, {"call face static init", api.Entry{Kind: api.CMethod, A: 1, B: 6, C: 99}, api.ErrEntry}, {"call face static init", api.Entry{Kind: api.CMethod, A: 1, B: 6, C: 7}, api.ErrMany}, {"call face static init", api.Entry{Kind: api.CMethod, A: 1, B: 6, C: 3, N: 2}, api.ErrArg},
	} {
		numbered(t, x.words, last, append(base[:last:last], x.e), x.want)
	}
}

// P403: array, cast, is: which types they may have.
func TestCheckTypes(t *testing.T) {
	for dims := range api.MaxDims + 1 {
		for _, name := range []string{"", "A", strings.Repeat("x", 32)} {
			b := pool.New()
			i, _ := b.Type(api.Type{Dims: dims, Name: name})
			want := api.OK
			if dims == 8 {
				want = api.ErrType
			}
			numbered(t, "array", i, b.Pool(), want)
			want = api.OK
			if dims == 0 && name == "" {
				want = api.ErrType
			}
			numbered(t, "cast is", i, b.Pool(), want)
		}
	}
}

// P403: call, face, static, init: which methods they may have.
func TestCheckMethods(t *testing.T) {
	b := pool.New()
	number, object := api.Type{}, api.Type{Name: "A"}
	for _, g := range []api.Sig{{Void: true}, {Void: true, Params: []api.Type{number, object}}, {}, {Result: object}, {Params: []api.Type{object}, Result: api.Type{Dims: 8}}} {
		f, _ := b.Method("A", "f", g)
		word, _ := b.Method("A", "init", g)
		made, _ := b.Method("A", "<init>", g)
		l := b.Pool()
		numbered(t, "call face static", f, l, api.OK)
		numbered(t, "call face static", word, l, api.OK)
		numbered(t, "call face static", made, l, api.ErrName)
		numbered(t, "init", f, l, api.ErrName)
		numbered(t, "init", word, l, api.ErrName)
		if g.Void {
			numbered(t, "init", made, l, api.OK)
		} else {
			numbered(t, "init", made, l, api.ErrType)
		}
	}
}

// P403, P6: the first instruction that has an error is told, at its place, whatever comes behind.
func TestCheckFirst(t *testing.T) {
	l := somePool()
	local, target, entry := api.Instr{Op: api.ILoad, N: 5}, api.Instr{Op: api.IJump, N: 999}, api.Instr{Op: api.INumber, N: 1}
	nop, good := api.Instr{}, api.Instr{Op: api.INumber}
	checked(t, spell(nop, good, local, target, entry), l, 5, 4, api.ErrLocal)
	checked(t, spell(nop, good, target, local, entry), l, 5, 4, api.ErrTarget)
	checked(t, spell(nop, good, entry, local, target), l, 5, 4, api.ErrEntry)
	checked(t, spell(good, good, good, good, entry), l, 5, 12, api.ErrEntry)
}

// P403: operations without a number fit everything.
func TestCheckPlain(t *testing.T) {
	for op := range 46 {
		if rowOf(op).bytes == 1 {
			checked(t, []byte{byte(op)}, nil, math.MinInt, 0, api.OK)
		}
	}
}

// P403: many rows of bytes, held against the model; each error must have been met.
func TestCheckAgainstModel(t *testing.T) {
	r := rand.New(rand.NewSource(403))
	l := somePool()
	met := map[api.Errno]int{}
	for range 200000 {
		code, locals := someCode(r), r.Intn(6)-1
		at, want := checkAll(code, l, locals)
		checked(t, code, l, locals, at, want)
		met[want]++
	}
	for _, e := range []api.Errno{api.OK, api.ErrEnd, api.ErrOp, api.ErrCut, api.ErrLocal, api.ErrTarget, api.ErrEntry, api.ErrType, api.ErrName} {
		if met[e] < 200 {
			t.Errorf("%v is met %d times", e, met[e])
		}
	}
}
