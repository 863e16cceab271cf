package instr_test

import (
	"math"
	"slices"
	"testing"

	"keystone/api"
	"keystone/instr"
)

// goesOn holds Next against what is wanted: P404.
func goesOn(t *testing.T, i api.Instr, want ...int) {
	t.Helper()
	if l := instr.Next(i); !slices.Equal(l, want) {
		t.Errorf("Next(%v): %v, wanted %v", i, l, want)
	}
}

// P404: operation by operation.
func TestNext(t *testing.T) {
	for op, w := range wordList {
		i := api.Instr{At: 10, Op: op, N: 77, Size: rowOf(op).bytes}
		switch w {
		case "return", "give", "throw":
			goesOn(t, i)
		case "jump":
			goesOn(t, i, 77)
		case "zero", "minus", "less", "isnil", "same":
			goesOn(t, i, 13, 77)
		default:
			goesOn(t, i, 10+rowOf(op).bytes)
		}
	}
}

// P404: At + Size ahead of N, be it lower or higher; one, if they are the same.
func TestNextOfBranches(t *testing.T) {
	for _, op := range []int{api.IZero, api.IMinus, api.ILess, api.IIsNil, api.ISame} {
		for _, n := range []int{0, 1, 4, 6, 7, 8, 65535} {
			goesOn(t, api.Instr{At: 4, Op: op, N: n, Size: 3}, slices.Compact([]int{7, n})...)
		}
	}
	for _, n := range []int{0, 3, 4, 7, 65535} {
		goesOn(t, api.Instr{At: 4, Op: api.IJump, N: n, Size: 3}, n)
	}
}

// P404: the number of what does not jump is no place; At and Size are those that it has.
func TestNextOfFields(t *testing.T) {
	goesOn(t, api.Instr{At: 5, Op: api.INumber, N: 99, Size: 3}, 8)
	goesOn(t, api.Instr{At: 5, Op: api.ILoad, N: 99, Size: 2}, 7)
	goesOn(t, api.Instr{At: 5, Op: api.IAdd, N: 99, Size: 7}, 12)
	goesOn(t, api.Instr{At: 5, Op: api.IZero, N: 8}, 5, 8)
	goesOn(t, api.Instr{At: 5, Op: api.IReturn, N: 9, Size: 3})
	goesOn(t, api.Instr{Op: api.INop}, 0)
}

// P404: none, if there is no such operation.
func TestNextOfNoOperation(t *testing.T) {
	for _, op := range noOperations {
		goesOn(t, api.Instr{At: 3, Op: op, N: 4, Size: 1})
	}
}

// P404, P1: numbers that no code has.
func TestNextAgainstModel(t *testing.T) {
	numbers := []int{math.MinInt, -3, -1, 0, 1, 2, 3, 4, 1 << 20, math.MaxInt}
	for op := -3; op < 50; op++ {
		for _, at := range numbers {
			for _, size := range numbers {
				for _, n := range append(numbers, at+size) {
					i := api.Instr{At: at, Op: op, N: n, Size: size}
					goesOn(t, i, nextOf(i)...)
				}
			}
		}
	}
}
