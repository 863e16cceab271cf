package maps_test

import (
	"math"
	"math/rand"
	"slices"
	"testing"

	"keystone/api"
	"keystone/instr"
	"keystone/maps"
)

// P1201: code that instr.All refuses has its error, whatever frames there are; no map is told beside it.
func TestOfCodeThatIsRefused(t *testing.T) {
	for _, x := range []struct {
		code []byte
		err  api.Errno
	}{
		{[]byte{255}, api.ErrOp},
		{[]byte{api.LastInst + 1}, api.ErrOp},
		{[]byte{api.INop, 46}, api.ErrOp},
		{[]byte{api.INop, 46, api.INumber}, api.ErrOp},
		{[]byte{api.INumber}, api.ErrCut},
		{[]byte{api.INumber, 0}, api.ErrCut},
		{[]byte{api.INop, api.ILoad}, api.ErrCut},
		{[]byte{api.INop, api.INop, api.IJump, 0}, api.ErrCut},
		{[]byte{api.IInit, 255, 255, api.IInit, 255}, api.ErrCut},
	} {
		for n := range 8 {
			if l, e := maps.Of(x.code, make([]api.Frame, n)); e != x.err || len(l) > 0 {
				t.Errorf("%v, %d frames: %v, %v; wanted %v", x.code, n, l, e, x.err)
			}
		}
	}
}

// P1201: ErrArg of rows that are too short, too long, empty: as many as there are instructions, not bytes.
func TestOfRowsOfAnotherLength(t *testing.T) {
	full := of("top | LA; | num")
	for _, x := range []struct {
		code []byte
		n    int
	}{
		{nil, 0},
		{[]byte{api.INop}, 1},
		{[]byte{api.INumber, 0, 0}, 1},
		{[]byte{api.ILoad, 0, api.INop}, 2},
		{[]byte{api.INop, api.IJump, 0, 0, api.INop, api.IStore, 0, api.IReturn}, 5},
	} {
		for n := range 12 {
			for _, f := range []api.Frame{{}, full} {
				l, e := maps.Of(x.code, slices.Repeat([]api.Frame{f}, n))
				if n != x.n && (e != api.ErrArg || len(l) > 0) {
					t.Errorf("%v, %d frames: %v, %v", x.code, n, l, e)
				}
				if n == x.n && (e != api.OK || len(l) != n) {
					t.Errorf("%v, %d frames: %v, %v", x.code, n, l, e)
				}
			}
		}
	}
	for _, code := range [][]byte{nil, {}, make([]byte, 0, 4)} {
		for _, l := range [][]api.Frame{nil, {}, make([]api.Frame, 0, 4)} {
			if got, e := maps.Of(code, l); e != api.OK || len(got) > 0 {
				t.Errorf("nothing at all: %v, %v", got, e)
			}
		}
	}
}

// P1201: At of each map is the place of its instruction, reached or not.
func TestOfPlaces(t *testing.T) {
	var code []byte
	var places []int
	for op := range api.LastInst + 1 {
		places = append(places, len(code))
		code = append(code, make([]byte, instr.Size(op))...)
		code[places[op]] = byte(op)
	}
	for _, f := range []api.Frame{{}, of("top | LA; | num nil")} {
		l, e := maps.Of(code, slices.Repeat([]api.Frame{f}, len(places)))
		if e != api.OK || len(l) != len(places) {
			t.Fatalf("%d maps, %v", len(l), e)
		}
		for n, m := range l {
			if m.At != places[n] {
				t.Errorf("%d at %d, wanted %d", n, m.At, places[n])
			}
		}
	}
	// Code that is longer than any method's: its places are told all the same.
	long := make([]byte, 70000)
	l, e := maps.Of(long, make([]api.Frame, len(long)))
	if e != api.OK || len(l) != len(long) || l[69999].At != 69999 {
		t.Errorf("%d maps, %v", len(l), e)
	}
}

// P1201: of a frame that is not reached no local and no place is told, whatever is in it; whether it is reached hangs on Self's Kind alone, and Self itself has no place in a map.
func TestOfFramesThatAreNotReached(t *testing.T) {
	objects := row("LA; nil num")
	for _, x := range []struct {
		self api.VType
		want string
	}{
		{api.VType{}, "0 /"},
		{api.VType{At: 3}, "0 /"},
		{api.VType{Type: typ("LA;")}, "0 /"},
		{api.VType{Kind: api.VTop}, "0 110/11"},
		{api.VType{Kind: api.VSelf, Type: typ("LA;")}, "0 110/11"},
		{api.VType{Kind: api.VRef, Type: typ("LA;")}, "0 110/11"},
		{api.VType{Kind: api.VNum}, "0 110/11"},
		{api.VType{Kind: -1}, "0 110/11"},
		{api.VType{Kind: math.MaxInt}, "0 110/11"},
	} {
		l, e := maps.Of([]byte{api.INop}, []api.Frame{{Self: x.self, Locals: objects, Stack: objects[:2]}})
		if e != api.OK || len(l) != 1 || text(l[0]) != x.want {
			t.Errorf("%v: %s, %v", x.self, texts(l), e)
		}
		if l, e := maps.Of([]byte{api.INop}, []api.Frame{{Self: x.self}}); e != api.OK || len(l) != 1 || text(l[0]) != "0 /" {
			t.Errorf("%v alone: %s, %v", x.self, texts(l), e)
		}
	}
	l, e := maps.Of([]byte{api.INop, api.ILoad, 0, api.INop, api.INop}, framesOf("top | LA; |\n-\ntop | num | nil\n-"))
	if want := texts(mapsOf("0 1/\n1 /\n3 0/1\n4 /")); e != api.OK || texts(l) != want {
		t.Errorf("%s, %v", texts(l), e)
	}
}

// P1201: each kind of knowledge, in each local and in each place of the Stack, whatever else it has.
func TestOfEachKind(t *testing.T) {
	for _, v := range odd {
		for size := 1; size < 4; size++ {
			for n := range size {
				for _, rest := range []api.VType{num, null} {
					places := slices.Repeat([]api.VType{rest}, size)
					places[n] = v
					bits := slices.Repeat([]bool{rest == null}, size)
					bits[n] = object(v)
					for _, f := range []api.Frame{{Self: top, Locals: places}, {Self: top, Stack: places}, {Self: top, Locals: places, Stack: row("num")}, {Self: top, Locals: row("nil"), Stack: places}} {
						want := api.Map{Locals: bits, Stack: bits}
						if len(f.Locals) != size || f.Locals[n] != v {
							want.Locals = bitsOf("1")[:len(f.Locals)]
						}
						if len(f.Stack) != size || f.Stack[n] != v {
							want.Stack = bitsOf("0")[:len(f.Stack)]
						}
						l, e := maps.Of([]byte{api.INop}, []api.Frame{f})
						if e != api.OK || len(l) != 1 || text(l[0]) != text(want) {
							t.Fatalf("%v: %s, %v; wanted %s", f, texts(l), e, text(want))
						}
					}
				}
			}
		}
	}
}

// P1201: rows of any frames, of any code, right or not.
func TestOfAtRandom(t *testing.T) {
	r := rand.New(rand.NewSource(1201))
	met := map[api.Errno]int{}
	for range 20000 {
		size := r.Intn(8)
		code := someCode(r, size)
		switch r.Intn(6) {
		case 0:
			code = code[:r.Intn(len(code)+1)]
		case 1:
			code = append(code, byte(r.Intn(256)))
		case 2:
			size += r.Intn(3) - 1
		}
		var l []api.Frame
		for range size {
			l = append(l, someFrame(r, odd))
		}
		want, err := plainOf(code, l)
		got, e := maps.Of(code, l)
		if texts(got) != want || e != err {
			t.Fatalf("%v, %v:\n%s%v; wanted\n%s%v", code, l, texts(got), e, want, err)
		}
		met[e]++
	}
	for _, e := range []api.Errno{api.OK, api.ErrArg, api.ErrOp, api.ErrCut} {
		if met[e] < 200 {
			t.Errorf("%v was met %d times only", e, met[e])
		}
	}
}
