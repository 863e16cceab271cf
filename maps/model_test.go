package maps_test

import (
	"math/rand"
	"slices"
	"strconv"
	"strings"

	"keystone/api"
	"keystone/instr"
)

// known is right knowledge, odd any at all: what a value is known to be hangs on its Kind alone.
var (
	known = row("num num nil top LA; LB; LC; LD; LObject; LThrowable; LX; LY; [I [LA; A@0 B@3 X@0 A! M! LM; LI; LF;")
	odd   = slices.Concat(known, []api.VType{
		{}, {At: 1}, {Type: typ("LA;")}, {Kind: -1}, {Kind: 7}, {Kind: 1 << 40}, {Kind: -1 << 63}, {Kind: 8, Type: typ("LA;")}, {Kind: -3, At: -3},
		{Kind: api.VNum, Type: typ("LA;")}, {Kind: api.VNum, At: 3}, {Kind: api.VTop, Type: typ("[I"), At: -1},
		{Kind: api.VNil, Type: typ("LA;")}, {Kind: api.VNil, At: -1}, {Kind: api.VRef}, {Kind: api.VRef, Type: typ("LNone;"), At: 9}, {Kind: api.VRef, Type: api.Type{Dims: -1, Name: " "}},
		{Kind: api.VFresh}, {Kind: api.VFresh, At: -1}, {Kind: api.VSelf}, {Kind: api.VSelf, Type: api.Type{Dims: 99}, At: 2},
	})
)

// object tells of which Kinds an object is.
func object(v api.VType) bool { return slices.Contains([]int{2, 3, 4, 5}, v.Kind) }

// plainOf is Of by the words of the chapter, as text.
func plainOf(code []byte, l []api.Frame) (string, api.Errno) {
	all, _, e := instr.All(code)
	switch {
	case e != api.OK:
		return "", e
	case len(all) != len(l):
		return "", api.ErrArg
	}
	var b strings.Builder
	for n, f := range l {
		b.WriteString(strconv.Itoa(all[n].At) + " ")
		if f.Self.Kind == 0 {
			f = api.Frame{}
		}
		for i, v := range slices.Concat(f.Locals, f.Stack) {
			if i == len(f.Locals) {
				b.WriteString("/")
			}
			if object(v) {
				b.WriteString("1")
			} else {
				b.WriteString("0")
			}
		}
		if len(f.Stack) == 0 {
			b.WriteString("/")
		}
		b.WriteString("\n")
	}
	return b.String(), api.OK
}

// binary is a number's text of so many bits.
func binary(n, size int) string {
	s := strconv.FormatInt(int64(n), 2)
	return strings.Repeat("0", size-len(s)) + s
}

// plainBits is Bits by the words of the chapter, over one text of noughts and ones.
func plainBits(l []api.Map) []byte {
	var s strings.Builder
	for _, m := range l {
		if m.At < 0 || m.At > 65535 || len(m.Locals) > 255 || len(m.Stack) > 255 {
			return nil
		}
		bits := bitText(m.Locals) + bitText(m.Stack)
		for len(bits)%8 != 0 {
			bits += "0"
		}
		s.WriteString(binary(m.At, 16) + binary(len(m.Locals), 8) + binary(len(m.Stack), 8) + bits)
	}
	return bytesOf(s.String())
}

// bytesOf are the bytes of a text of noughts and ones, eight each.
func bytesOf(s string) []byte {
	var b []byte
	for at := 0; at < len(s); at += 8 {
		n, e := strconv.ParseUint(s[at:at+8], 2, 8)
		if e != nil {
			panic(s)
		}
		b = append(b, byte(n))
	}
	return b
}

// plainParse is Parse by the words of the chapter, as text.
func plainParse(b []byte) (string, api.Errno) {
	var told strings.Builder
	for len(b) > 0 {
		if len(b) < 4 {
			return "", api.ErrCut
		}
		at, locals, stack := int(b[0])*256+int(b[1]), int(b[2]), int(b[3])
		size := (locals + stack + 7) / 8
		if len(b)-4 < size {
			return "", api.ErrCut
		}
		bits := ""
		for _, c := range b[4 : 4+size] {
			bits += binary(int(c), 8)
		}
		if strings.Contains(bits[locals+stack:], "1") {
			return "", api.ErrArg
		}
		told.WriteString(strconv.Itoa(at) + " " + bits[:locals] + "/" + bits[locals:locals+stack] + "\n")
		b = b[4+size:]
	}
	return told.String(), api.OK
}

// some are so many of l.
func some[T any](r *rand.Rand, l []T, n int) []T {
	var got []T
	for range n {
		got = append(got, l[r.Intn(len(l))])
	}
	return got
}

// someFrame is one of some knowledge; one in some is not reached, with or without something in it.
func someFrame(r *rand.Rand, l []api.VType) api.Frame {
	f := api.Frame{Self: some(r, l, 1)[0], Locals: some(r, l, r.Intn(5)), Stack: some(r, l, r.Intn(5))}
	switch r.Intn(6) {
	case 0:
		return api.Frame{}
	case 1:
		f.Self = api.VType{At: r.Intn(2)}
	}
	return f
}

// someCode is code that instr.All takes, of so many instructions.
func someCode(r *rand.Rand, size int) []byte {
	var code []byte
	for range size {
		op := r.Intn(api.LastInst + 1)
		code = append(code, byte(op))
		for range instr.Size(op) - 1 {
			code = append(code, byte(r.Intn(256)))
		}
	}
	return code
}

// someBits are so many at random; now and then all of one sort.
func someBits(r *rand.Rand, n int) []bool {
	sort := r.Intn(6)
	l := make([]bool, n)
	for i := range l {
		l[i] = sort == 0 || sort > 1 && r.Intn(2) == 0
	}
	return l
}

// someMap is one whose numbers fit; most times it is small.
func someMap(r *rand.Rand) api.Map {
	size := func() int {
		if r.Intn(8) == 0 {
			return r.Intn(256)
		}
		return r.Intn(12)
	}
	return api.Map{At: some(r, []int{0, 1, 3, 255, 256, 65535, r.Intn(65536)}, 1)[0], Locals: someBits(r, size()), Stack: someBits(r, size())}
}

func someMaps(r *rand.Rand, n int) []api.Map {
	var l []api.Map
	for range n {
		l = append(l, someMap(r))
	}
	return l
}
