package instr_test

import (
	"math/rand"
	"slices"
	"strings"

	"keystone/api"
	"keystone/pool"
)

// What the chapter says, written a second time, word by word; the tests hold the package against it.
const wordsInOrder = "nop number nil load store pop dup swap add sub mul div rem neg and or xor shl shr jump zero minus less isnil same new get put gets puts array numget numput refget refput length cast is call face static init return give throw print"

// tableRow is one of the chapter's table: words, how many bytes, what N is.
type tableRow struct {
	words string
	bytes int
	n     string
}

var table = []tableRow{
	{"nop nil pop dup swap add sub mul div rem neg and or xor shl shr numget numput refget refput length return give throw print", 1, ""},
	{"load store", 2, "local"},
	{"number", 3, "number"},
	{"jump zero minus less isnil same", 3, "place"},
	{"new", 3, "class"},
	{"get put gets puts", 3, "field"},
	{"array cast is", 3, "type"},
	{"call face static init", 3, "method"},
}

var wordList = strings.Fields(wordsInOrder)

// word is an operation's; empty, if there is none.
func word(op int) string {
	if op < 0 || op >= len(wordList) {
		return ""
	}
	return wordList[op]
}

// opOf is the operation of a word that there is.
func opOf(s string) int {
	return slices.Index(wordList, s)
}

// rowList is the table's row of each operation.
var rowList = func() (l []tableRow) {
	for _, w := range wordList {
		l = append(l, table[slices.IndexFunc(table, func(x tableRow) bool { return slices.Contains(strings.Fields(x.words), w) })])
	}
	return l
}()

// rowOf is the table's row of an operation; a zero one, if there is none.
func rowOf(op int) tableRow {
	if word(op) == "" {
		return tableRow{}
	}
	return rowList[op]
}

// spell writes instructions whose numbers fit.
func spell(l ...api.Instr) []byte {
	var code []byte
	for _, i := range l {
		switch rowOf(i.Op).bytes {
		case 1:
			code = append(code, byte(i.Op))
		case 2:
			code = append(code, byte(i.Op), byte(i.N))
		case 3:
			code = append(code, byte(i.Op), byte(i.N/256), byte(i.N%256))
		}
	}
	return code
}

// readAll is what All must tell.
func readAll(code []byte) ([]api.Instr, int, api.Errno) {
	var l []api.Instr
	rest := code
	for len(rest) > 0 {
		at, op := len(code)-len(rest), int(rest[0])
		size := rowOf(op).bytes
		switch {
		case op > 45:
			return nil, at, api.ErrOp
		case len(rest) < size:
			return nil, at, api.ErrCut
		case size == 1:
			l = append(l, api.Instr{At: at, Op: op, Size: 1})
		case size == 2:
			l = append(l, api.Instr{At: at, Op: op, N: int(rest[1]), Size: 2})
		case size == 3:
			l = append(l, api.Instr{At: at, Op: op, N: int(rest[1])*256 + int(rest[2]), Size: 3})
		}
		rest = rest[size:]
	}
	return l, 0, api.OK
}

// faultOf is what is wrong with an instruction among all of its code.
func faultOf(all []api.Instr, i api.Instr, entries []api.Entry, locals int) api.Errno {
	w := word(i.Op)
	switch rowOf(i.Op).n {
	case "local":
		if !(i.N < locals) {
			return api.ErrLocal
		}
	case "place":
		for _, j := range all {
			if j.At == i.N {
				return api.OK
			}
		}
		return api.ErrTarget
	case "number":
		_, e := pool.Number(entries, i.N)
		return e
	case "class":
		_, e := pool.Class(entries, i.N)
		return e
	case "field":
		_, _, _, e := pool.Field(entries, i.N)
		return e
	case "type":
		x, e := pool.Type(entries, i.N)
		if e == api.OK && (w == "array" && x.Dims == 8 || w != "array" && x == api.Type{}) {
			return api.ErrType
		}
		return e
	case "method":
		_, name, g, e := pool.Method(entries, i.N)
		switch {
		case e != api.OK:
			return e
		case w == "init" && name != "<init>", w != "init" && name == "<init>":
			return api.ErrName
		case w == "init" && !g.Void:
			return api.ErrType
		}
	}
	return api.OK
}

// checkAll is what Check must tell.
func checkAll(code []byte, entries []api.Entry, locals int) (int, api.Errno) {
	switch n := len(code); {
	case n == 0:
		return 0, api.ErrEnd
	case n > 1024:
		return 0, api.ErrLong
	}
	all, at, e := readAll(code)
	if e != api.OK {
		return at, e
	}
	for _, i := range all {
		if e := faultOf(all, i, entries, locals); e != api.OK {
			return i.At, e
		}
	}
	return 0, api.OK
}

// nextOf is what Next must tell.
func nextOf(i api.Instr) []int {
	switch w := word(i.Op); {
	case w == "" || w == "return" || w == "give" || w == "throw":
		return nil
	case w == "jump":
		return []int{i.N}
	case rowOf(i.Op).n == "place" && i.N != i.At+i.Size:
		return []int{i.At + i.Size, i.N}
	}
	return []int{i.At + i.Size}
}

// somePool has entries of each kind, some of which are wrong; its first ones are right.
func somePool() []api.Entry {
	text := func(s string) api.Entry { return api.Entry{Kind: api.CText, Text: s} }
	return []api.Entry{
		{Kind: api.CNumber, N: 7}, {Kind: api.CClass, A: 8}, {Kind: api.CType, A: 9}, {Kind: api.CType, A: 10}, {Kind: api.CType, A: 11},
		{Kind: api.CField, A: 1, B: 12, C: 9}, {Kind: api.CMethod, A: 1, B: 12, C: 13}, {Kind: api.CMethod, A: 1, B: 14, C: 13},
		text("A"), text("I"), text("[[[[[[[[I"), text("[LA;"), text("f"), text("()V"), text("<init>"), text("()I"), text("1"),
		{Kind: api.CMethod, A: 1, B: 14, C: 15}, {Kind: api.CMethod, A: 1, B: 12, C: 15}, {Kind: api.CType, A: 8}, {Kind: api.CClass, A: 16}, {Kind: api.CField, A: 20, B: 12, C: 9},
		{Kind: api.CMethod, A: 20, B: 14, C: 13}, {Kind: api.CNumber, N: 7, C: 1}, {Kind: api.CMethod, A: 1, B: 12, C: 12}, {Kind: api.CField, A: 1, B: 14, C: 9}, {Kind: 9},
	}
}

// someNumber is one that an operation may have in code of so many bytes: mostly one that is good, in somePool.
func someNumber(r *rand.Rand, op, length int) int {
	if r.Intn(8) == 0 {
		return r.Intn(1 << (8 * (rowOf(op).bytes - 1)))
	}
	if r.Intn(6) == 0 && rowOf(op).bytes == 3 {
		return r.Intn(len(somePool()) + 1)
	}
	good := map[string][]int{"": {0}, "local": {0, 1, 2, 3}, "number": {0}, "class": {1}, "field": {5}, "type": {2, 3, 4, 4, 4}, "method": {6, 6, 18, 7, 17}, "place": {0, 0, r.Intn(length + 2)}}[rowOf(op).n]
	return good[r.Intn(len(good))]
}

// someCode is a few instructions, now and then with a byte that is another one, or cut.
func someCode(r *rand.Rand) []byte {
	var l []api.Instr
	n := r.Intn(7)
	for range n {
		op := r.Intn(46)
		l = append(l, api.Instr{Op: op, N: someNumber(r, op, 2*n)})
	}
	code := spell(l...)
	if len(code) > 0 && r.Intn(10) == 0 {
		code[r.Intn(len(code))] = byte(r.Intn(256))
	}
	if len(code) > 0 && r.Intn(10) == 0 {
		code = code[:r.Intn(len(code))]
	}
	return code
}
