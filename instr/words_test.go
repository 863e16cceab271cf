package instr_test

import (
	"math"
	"strings"
	"testing"

	"keystone/api"
	"keystone/instr"
)

// noOperations are numbers beside those of operations.
var noOperations = []int{math.MinInt, -256, -46, -2, -1, 46, 47, 64, 128, 255, 256, 256 + 3, 1<<16 + 1, 1<<32 + 19, math.MaxInt}

// P401: the words of the chapter, in their order.
func TestWords(t *testing.T) {
	if len(wordList) != api.LastInst+1 {
		t.Fatalf("%d words", len(wordList))
	}
	for op, w := range wordList {
		if got := instr.Name(op); got != w {
			t.Errorf("Name(%d): %q, wanted %q", op, got, w)
		}
		if got, ok := instr.Op(w); got != op || !ok {
			t.Errorf("Op(%q): %d, %v, wanted %d", w, got, ok, op)
		}
	}
}

// P401: words by the constants that other packages use.
func TestWordsOfConstants(t *testing.T) {
	for op, w := range map[int]string{
		api.INop: "nop", api.INumber: "number", api.INil: "nil", api.ILoad: "load", api.IStore: "store", api.IPop: "pop", api.IDup: "dup", api.ISwap: "swap",
		api.IAdd: "add", api.ISub: "sub", api.IMul: "mul", api.IDiv: "div", api.IRem: "rem", api.INeg: "neg", api.IAnd: "and", api.IOr: "or", api.IXor: "xor", api.IShl: "shl", api.IShr: "shr",
		api.IJump: "jump", api.IZero: "zero", api.IMinus: "minus", api.ILess: "less", api.IIsNil: "isnil", api.ISame: "same",
		api.INew: "new", api.IGet: "get", api.IPut: "put", api.IGetS: "gets", api.IPutS: "puts", api.IArray: "array", api.INumGet: "numget", api.INumPut: "numput", api.IRefGet: "refget", api.IRefPut: "refput", api.ILength: "length",
		api.ICast: "cast", api.IIs: "is", api.ICall: "call", api.IFace: "face", api.IStatic: "static", api.IInit: "init", api.IReturn: "return", api.IGive: "give", api.IThrow: "throw", api.IPrint: "print",
	} {
		if got := instr.Name(op); got != w {
			t.Errorf("Name(%d): %q, wanted %q", op, got, w)
		}
	}
}

// P401: how many bytes, row by row; each operation stands in just one row.
func TestSizes(t *testing.T) {
	sum := 0
	for _, x := range table {
		for _, w := range strings.Fields(x.words) {
			sum++
			if got := instr.Size(opOf(w)); got != x.bytes {
				t.Errorf("Size of %s: %d, wanted %d", w, got, x.bytes)
			}
		}
	}
	if sum != 46 {
		t.Errorf("the table has %d operations", sum)
	}
}

// P401, P4: what is no operation has no word and no bytes.
func TestNoOperations(t *testing.T) {
	for _, op := range noOperations {
		if s, n := instr.Name(op), instr.Size(op); s != "" || n != 0 {
			t.Errorf("%d: %q, %d bytes", op, s, n)
		}
	}
}

// P401, P4: texts that are no word.
func TestNoWords(t *testing.T) {
	l := []string{"", " ", "0", "1", "<init>", "goto", "nopx", "no", "op", "Nop", "NOP", "\xff", "nop\x00", "ints", "getS", "get s", "isNil", wordsInOrder, "nop number", strings.Repeat("x", 1<<16)}
	for _, w := range wordList {
		l = append(l, w+" ", " "+w, w+w, strings.ToUpper(w), w+"\n")
	}
	for _, s := range l {
		if op, ok := instr.Op(s); op != 0 || ok {
			t.Errorf("Op(%.40q): %d, %v", s, op, ok)
		}
	}
}
