package instr

import (
	"keystone/api"
)

// words are those of the operations, in the order of their numbers.
var words = [...]string{
	"nop", "number", "nil", "load", "store", "pop", "dup", "swap",
	"add", "sub", "mul", "div", "rem", "neg", "and", "or", "xor", "shl", "shr",
	"jump", "zero", "minus", "less", "isnil", "same",
	"new", "get", "put", "gets", "puts",
	"array", "numget", "numput", "refget", "refput", "length", "cast", "is",
	"call", "face", "static", "init", "return", "give", "throw", "print",
}

// row is one of the table of operations: what an operation's number is.
type row int

const (
	none   row = iota // there is no such operation
	plain             // it has no number
	local             // a local
	number            // from here on an entry of the pool, or a place
	place
	class
	field
	kind
	method
)

func rowOf(op int) row {
	switch op {
	case api.ILoad, api.IStore:
		return local
	case api.INumber:
		return number
	case api.IJump, api.IZero, api.IMinus, api.ILess, api.IIsNil, api.ISame:
		return place
	case api.INew:
		return class
	case api.IGet, api.IPut, api.IGetS, api.IPutS:
		return field
	case api.IArray, api.ICast, api.IIs:
		return kind
	case api.ICall, api.IFace, api.IStatic, api.IInit:
		return method
	}
	if op < 0 || op > api.LastInst {
		return none
	}
	return plain
}

// Name tells an instruction's word, Op the instruction of a word; Size how many bytes it has.
func Name(op int) string {
	if op < 0 || op >= len(words) {
		return ""
	}
	return words[op]
}

func Op(s string) (int, bool) {
	for op, word := range words {
		if word == s {
			return op, true
		}
	}
	return 0, false
}

// Size counts a byte for the operation and one or two for its number: rows with more bytes fall through to those with one less.
func Size(op int) int {
	size := 0
	switch rowOf(op) {
	case number, place, class, field, kind, method:
		size++
		fallthrough
	case local:
		size++
		fallthrough
	case plain:
		size++
	}
	return size
}
