package arena_test

import (
	"math"
	"testing"

	"keystone/api"
	"keystone/arena"
)

// P1501: each object lies right behind the one ahead, from the beginning on; its address is 8 and the bytes ahead of it.
func TestMake(t *testing.T) {
	a := begin(t, 4096)
	want, used := []int64(nil), 0
	for _, slots := range []int{0, 1, 2, 0, 0, 5, 17, 1, 100, 0} {
		at, e := a.Make(slots-3, slots)
		if at != int64(8+used) || e != api.OK {
			t.Fatalf("%d slots: %d, %v; %d bytes ahead of it", slots, at, e, used)
		}
		want, used = append(want, at), used+16+8*slots
		stands(t, a, used, want...)
		holds(t, a, at, slots-3, make([]int64, slots)...)
	}
}

// P1501: a kind may be any number.
func TestKinds(t *testing.T) {
	a := begin(t, 4096)
	for _, k := range numbers {
		at := made(t, a, int(k), k)
		holds(t, a, at, int(k), k)
	}
	for i, at := range a.All() {
		holds(t, a, at, int(numbers[i]), numbers[i])
	}
}

// P1501: 0 to MaxArray slots.
func TestHowManySlots(t *testing.T) {
	a := begin(t, 1<<20)
	for _, slots := range oddCounts {
		if at, e := a.Make(1, slots); at != 0 || e != api.ErrArg {
			t.Errorf("%d: %d, %v", slots, at, e)
		}
	}
	stands(t, a, 0)
	at, e := a.Make(7, 65536)
	if at != 8 || e != api.OK {
		t.Fatal(at, e)
	}
	puts(t, a, at, 65535, -5)
	puts(t, a, at, 0, 6)
	next := made(t, a, 8, 9)
	if next != 16+8*65536+8 {
		t.Errorf("%d", next)
	}
	for slot, want := range map[int]int64{0: 6, 1: 0, 65534: 0, 65535: -5} {
		if v, e := a.Get(at, slot); v != want || e != api.OK {
			t.Errorf("%d: %d, %v; wanted %d", slot, v, e, want)
		}
	}
	if n, e := a.Slots(at); n != 65536 || e != api.OK {
		t.Errorf("%d, %v", n, e)
	}
	holds(t, a, next, 8, 9)
}

// full is an arena in whose used half there are just so many bytes left.
func full(t testing.TB, left int) *arena.Arena {
	t.Helper()
	a := begin(t, 256+left)
	made(t, a, 1, 5, 6)
	made(t, a, -2, make([]int64, 24)...)
	made(t, a, 3)
	if a.Used() != 256 {
		t.Fatalf("%d", a.Used())
	}
	return a
}

// P1501: a half is filled to its last byte; then no object finds room.
func TestToTheLastByte(t *testing.T) {
	for left := range 60 {
		a := full(t, left)
		before := picture(a)
		for slots := range 10 {
			fits := 16+8*slots <= left
			if a.Room(slots) != fits {
				t.Errorf("%d left: Room(%d): %v", left, slots, !fits)
			}
			if fits {
				continue
			}
			if at, e := a.Make(4, slots); at != 0 || e != api.ErrFull {
				t.Errorf("%d left: Make of %d slots: %d, %v", left, slots, at, e)
			}
		}
		if got := picture(a); got != before {
			t.Errorf("%s became %s", before, got)
		}
		if left < 16 {
			continue
		}
		at, e := a.Make(4, (left-16)/8)
		if at != 264 || e != api.OK || a.Used() != 256+left/8*8 || a.Room(0) {
			t.Errorf("%d left: %d, %v, %d used", left, at, e, a.Used())
		}
	}
}

// P1501: behind one that finds no room a smaller one still finds some.
func TestSmallerFindsRoom(t *testing.T) {
	a := begin(t, 256)
	made(t, a, 1, make([]int64, 20)...)
	for slots := 20; slots > 8; slots-- {
		if at, e := a.Make(slots, slots); at != 0 || e != api.ErrFull {
			t.Errorf("%d: %d, %v", slots, at, e)
		}
	}
	stands(t, a, 176, 8)
	if at, e := a.Make(7, 8); at != 184 || e != api.OK {
		t.Errorf("%d, %v", at, e)
	}
	stands(t, a, 256, 8, 184)
}

// P1501, P6: ErrArg comes ahead of ErrFull.
func TestMakeErrorsInOrder(t *testing.T) {
	for _, left := range []int{0, 8, 16, 100} {
		a := full(t, left)
		before := picture(a)
		for _, slots := range oddCounts {
			for _, k := range []int{0, -1, math.MaxInt} {
				if at, e := a.Make(k, slots); at != 0 || e != api.ErrArg {
					t.Errorf("%d: %d, %v", slots, at, e)
				}
			}
		}
		for _, slots := range []int{65536, 65535, 1000, 20} {
			if at, e := a.Make(0, slots); at != 0 || e != api.ErrFull {
				t.Errorf("%d: %d, %v", slots, at, e)
			}
		}
		if got := picture(a); got != before {
			t.Errorf("%s became %s", before, got)
		}
	}
}
