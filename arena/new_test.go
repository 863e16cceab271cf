package arena_test

import (
	"math"
	"testing"

	"keystone/api"
	"keystone/arena"
)

// P1501: a half has 256 to 1 << 20 bytes.
func TestNew(t *testing.T) {
	for _, n := range []int{256, 257, 258, 263, 264, 1000, 1<<20 - 1, 1 << 20} {
		a := begin(t, n)
		stands(t, a, 0)
		if b := a.Bytes(); len(b) > 0 {
			t.Errorf("%d: %v", n, b)
		}
	}
	for _, n := range []int{255, 254, 128, 8, 1, 0, -1, -255, -256, 1<<20 + 1, 1 << 21, 1 << 31, 1 << 32, 1<<32 + 256, -1 << 32, math.MaxInt32, math.MinInt32, math.MaxInt, math.MinInt} {
		if a, e := arena.New(n); a != nil || e != api.ErrArg {
			t.Errorf("%d: %v, %v", n, a, e)
		}
	}
}

// P1501: both halves are empty: there is nothing at any address, nor anything to be copied.
func TestNewIsEmpty(t *testing.T) {
	a := begin(t, 256)
	for range 3 {
		for at := int64(-20); at < 300; at++ {
			noObject(t, a, at)
			notCopied(t, a, api.ErrAddr, at)
		}
		stands(t, a, 0)
		a.Flip()
	}
}

// P1501: each half has room for just as many bytes as it was made with, whichever is used, and how often it was.
func TestEachHalfHasItsBytes(t *testing.T) {
	for _, semi := range []int{256, 257, 262, 263, 264, 265, 271, 272, 500, 4096, 1<<20 - 1, 1 << 20} {
		a := begin(t, semi)
		for range 5 {
			most := (semi - 16) / 8
			for _, slots := range []int{most + 1, most + 2} {
				if a.Room(slots) {
					t.Errorf("%d: room for %d slots", semi, slots)
				}
				if slots > api.MaxArray {
					continue
				}
				if at, e := a.Make(1, slots); at != 0 || e != api.ErrFull {
					t.Errorf("%d: Make of %d slots: %d, %v", semi, slots, at, e)
				}
			}
			stands(t, a, 0)
			if most > api.MaxArray {
				most = api.MaxArray
			}
			if !a.Room(most) {
				t.Errorf("%d: no room for %d slots", semi, most)
			}
			if at, e := a.Make(1, most); at != 8 || e != api.OK {
				t.Errorf("%d: Make of %d slots: %d, %v", semi, most, at, e)
			}
			stands(t, a, 16+8*most, 8)
			a.Flip()
		}
	}
}

// P1501: what finds no room in one half finds none for what the other one has free.
func TestTheOtherHalfIsNoRoom(t *testing.T) {
	a := begin(t, 256)
	a.Flip()
	made(t, a, 1, make([]int64, 20)...)
	a.Flip()
	made(t, a, 1, make([]int64, 20)...)
	if at, e := a.Make(2, 10); at != 0 || e != api.ErrFull {
		t.Errorf("%d, %v", at, e)
	}
	stands(t, a, 176, 8)
}
