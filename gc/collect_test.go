package gc_test

import (
	"math"
	"slices"
	"testing"

	"keystone/api"
	"keystone/arena"
	"keystone/gc"
)

// chapter makes the objects of the chapter's example.
func chapter(t testing.TB) (*arena.Arena, gc.Table) {
	t.Helper()
	a := begin(t, 256)
	made(t, a, 0, 56, 7)
	made(t, a, 1)
	made(t, a, 0, 8, 0)
	return a, gc.Table{{0}, {}}
}

// The chapter's example.
func TestExample(t *testing.T) {
	a, s := chapter(t)
	stands(t, a, 80, 8, 40, 56)
	reaches(t, a, s, []int64{56}, 56, 8)
	collects(t, a, s, []int64{56}, 64, 8)
	stands(t, a, 64, 8, 40)
	holds(t, a, 8, 0, 40, 0)
	holds(t, a, 40, 0, 8, 7)
}

// P1602: a root that is neither 0 nor an object's address is refused, wherever it stands, and nothing has changed.
func TestCollectRefuses(t *testing.T) {
	a, s := chapter(t)
	for _, at := range append(oddAddresses(80), 16, 24, 32, 48, 64, 72) {
		refuses(t, a, s, at)
		refuses(t, a, s, 8, 40, 0, at)
		refuses(t, a, s, at, 8)
		refuses(t, a, s, 0, at, 56, at)
	}
	stands(t, a, 80, 8, 40, 56)
	holds(t, a, 8, 0, 56, 7)
	holds(t, a, 56, 0, 8, 0)
}

// P1602, P5: where a root is refused there was no flip: what lies in the half ahead is copied as it was.
func TestCollectRefusesAheadOfTheFlip(t *testing.T) {
	a := begin(t, 256)
	x, y := made(t, a, 1, 11), made(t, a, 2, 22)
	a.Flip()
	if now, e := a.Copy(y); now != 8 || e != api.OK {
		t.Fatal(now, e)
	}
	refuses(t, a, every, 8, y)
	refuses(t, a, every, x+800)
	for at, want := range map[int64]int64{y: 8, x: 32} {
		if now, e := a.Copy(at); now != want || e != api.OK {
			t.Errorf("Copy(%d): %d, %v", at, now, e)
		}
	}
	holds(t, a, 8, 2, 22)
	holds(t, a, 32, 1, 11)
}

// P1602: what was copied into the used half ahead of it is an object like others; what lies in the half ahead is none.
func TestCollectOfTheUsedHalf(t *testing.T) {
	a := begin(t, 256)
	x, y := made(t, a, 1, 11), made(t, a, 2, 22)
	a.Flip()
	refuses(t, a, every, x)
	refuses(t, a, every, y)
	a.Copy(y)
	z := made(t, a, 3, y, x, 8)
	collects(t, a, every, []int64{z, 8}, 40+24, 8, 48)
	holds(t, a, 8, 3, 8, 48, 48) // z lies where y lay, and the copy of y where x lay
	holds(t, a, 48, 2, 22)
}

// P1602: without roots, or with 0 alone, nothing is kept.
func TestCollectOfNothing(t *testing.T) {
	a, s := chapter(t)
	collects(t, a, s, []int64{0, 0}, 0, 0, 0)
	stands(t, a, 0)
	collects(t, a, s, nil, 0)
	a, s = chapter(t)
	collects(t, a, s, nil, 0)
	stands(t, a, 0)
	refuses(t, a, s, 8)
	made(t, a, 5, 55)
	collects(t, a, s, []int64{}, 0)
	stands(t, a, 0)
}

// P1602: for each root the address that it has now is told, in the roots' order: one twice, 0, one that another one leads to.
func TestCollectTellsRoots(t *testing.T) {
	a, s := chapter(t)
	collects(t, a, s, []int64{0, 40, 8, 0, 40, 56, 8}, 80, 0, 8, 24, 0, 8, 56, 24)
	holds(t, a, 8, 1)
	holds(t, a, 24, 0, 56, 7)
	holds(t, a, 56, 0, 24, 0)
	a, s = chapter(t)
	collects(t, a, s, []int64{8, 0, 56}, 64, 8, 0, 40)
	holds(t, a, 8, 0, 40, 7)
	holds(t, a, 40, 0, 8, 0)
}

// P1602: objects are copied in Reach's order: roots, then what each of them leads to, as the list grows.
func TestCollectInOrder(t *testing.T) {
	a := begin(t, 512)
	var l [8]int64
	for i := range l {
		l[i] = made(t, a, i, 0, 0)
	}
	puts(t, a, l[7], l[2], l[5])
	puts(t, a, l[2], l[6], l[0])
	puts(t, a, l[5], l[0], l[3])
	puts(t, a, l[6], l[4], l[7])
	collects(t, a, every, []int64{l[5], l[7]}, 7*32, 8, 40)
	for i, kind := range []int{5, 7, 0, 3, 2, 6, 4} {
		if k, e := a.Kind(8 + 32*int64(i)); k != kind || e != api.OK {
			t.Errorf("object %d: kind %d, %v; wanted %d", i, k, e, kind)
		}
	}
	holds(t, a, 8, 5, 72, 104)
	holds(t, a, 40, 7, 136, 8)
	holds(t, a, 72, 0, 0, 0)
	holds(t, a, 136, 2, 168, 72)
	holds(t, a, 168, 6, 200, 40)
}

// P1602: slots that the shape does not tell hold what they held, though it look like an address.
func TestCollectLeavesOtherSlots(t *testing.T) {
	a := begin(t, 256)
	made(t, a, 9)
	x := made(t, a, 9)
	p := made(t, a, 0, x, x, x, 8, 0)
	puts(t, a, p, x, x, x, 8, p)
	collects(t, a, gc.Table{{1}}, []int64{p}, 56+16, 8)
	holds(t, a, 8, 0, x, 64, x, 8, p)
	holds(t, a, 64, 9)
	made(t, a, 9)
	collects(t, a, none, []int64{64, 8}, 56+16, 8, 24)
	holds(t, a, 24, 0, x, 64, x, 8, p)
}

// P1602: in slots that it tells, what is no object's address stays, though there be an object behind the collection.
func TestCollectLeavesNumbers(t *testing.T) {
	a := begin(t, 512)
	made(t, a, 3)
	x := made(t, a, 4, 0)
	odd := append(oddAddresses(480), 0, 16, 32, 56, 72)
	p := made(t, a, 5, append(slices.Clone(odd), x)...)
	collects(t, a, every, []int64{x, p}, a.Used()-16, 8, 32)
	holds(t, a, 8, 4, 0)
	holds(t, a, 32, 5, append(odd, 8)...)
}

// P1602: a slot that is told twice, or among numbers that are none, is made new once: its new address may have been another object's.
func TestCollectSlotToldTwice(t *testing.T) {
	for _, refs := range [][]int{{0, 0, 1}, {0, 1, 0, 1}, {1, 1, 0, 0, 0}, append(append(oddSlots(2), 0, 0, 1), 1, 9)} {
		a := begin(t, 256)
		x := made(t, a, 1, 11)
		y := made(t, a, 1, 22)
		made(t, a, 1, 33)
		p := made(t, a, 0, y, x)
		collects(t, a, gc.Table{refs}, []int64{p, y}, 32+48, 8, 40)
		holds(t, a, 8, 0, 40, 64)
		holds(t, a, 40, 1, 22)
		holds(t, a, 64, 1, 11)
	}
	// Here the new address is that of an object which is reached, too.
	a := begin(t, 256)
	x := made(t, a, 1, 0)
	y := made(t, a, 1, x)
	collects(t, a, gc.Table{nil, {0, 0}}, []int64{y}, 48, 8)
	holds(t, a, 8, 1, 32)
	holds(t, a, 32, 1, 0)
}

// P1602: of each told slot its own number is made new, in whatever order they are told.
func TestCollectSlotsInAnyOrder(t *testing.T) {
	for _, refs := range [][]int{{0, 1, 2}, {2, 1, 0}, {1, 0, 2}, {2, 0, 1}} {
		a := begin(t, 256)
		l := []int64{made(t, a, 1), made(t, a, 2), made(t, a, 3)}
		p := made(t, a, 0, l...)
		now := make([]int64, 3)
		for i, slot := range refs {
			now[slot] = 48 + 16*int64(i)
		}
		collects(t, a, gc.Table{refs}, []int64{p}, 40+48, 8)
		holds(t, a, 8, 0, now...)
		for slot, at := range now {
			holds(t, a, at, slot+1)
		}
	}
}

// P1602: kinds and numbers of any size are kept as they are.
func TestCollectKeepsNumbers(t *testing.T) {
	a := begin(t, 512)
	made(t, a, 1, 1, 2, 3)
	numbers := []int64{math.MinInt64, math.MinInt64 + 1, -1 << 32, -256, -129, -1, 1, 127, 128, 255, 1 << 32, 0x0102030405060708, math.MaxInt64}
	p := made(t, a, math.MinInt, numbers...)
	q := made(t, a, math.MaxInt, p)
	r := made(t, a, -1, numbers...)
	collects(t, a, each(func(kind, slots int) []int { return map[int][]int{math.MaxInt: {0}}[kind] }), []int64{q, r}, 24+120+120, 8, 32)
	holds(t, a, 8, math.MaxInt, 152)
	holds(t, a, 32, -1, numbers...)
	holds(t, a, 152, math.MinInt, numbers...)
}

// P1602: a half filled to its last byte, of which all is reached, finds room.
func TestCollectFull(t *testing.T) {
	for _, c := range []struct{ semi, slots int }{{256, 0}, {264, 0}, {256, 6}, {384, 1}, {400, 3}, {1 << 20, 0}} {
		a := begin(t, c.semi)
		var l []int64
		last := int64(0)
		for a.Room(c.slots) {
			slots := make([]int64, c.slots)
			if c.slots > 0 {
				slots[c.slots-1] = last
			}
			last = made(t, a, -2, slots...)
			l = append(l, last)
		}
		if left := c.semi - a.Used(); left >= 16 {
			made(t, a, -1, make([]int64, (left-16)/8)...)
			l = append(l, a.All()[len(l)])
		}
		used := a.Used()
		slices.Reverse(l)
		now, e := gc.Collect(a, gc.Table{}, l...)
		if e != api.OK || a.Used() != used || used < c.semi-8 || !slices.Equal(a.All(), now) {
			t.Errorf("%v: %v, %d of %d bytes", c, e, a.Used(), c.semi)
		}
	}
}

// P1602: behind Collect what was given up gives its room to others.
func TestCollectGivesRoom(t *testing.T) {
	a := begin(t, 256)
	keep := made(t, a, 1, 42)
	for range 50 {
		for a.Room(2) {
			made(t, a, 2, keep, keep)
		}
		now, e := gc.Collect(a, every, keep)
		if e != api.OK || a.Used() != 24 {
			t.Fatalf("%v, %v, %d", now, e, a.Used())
		}
		keep = now[0]
		holds(t, a, keep, 1, 42)
	}
}

// P1602: a was flipped: what lay in the used half is the half ahead; what was copied is not copied again.
func TestCollectIsAFlip(t *testing.T) {
	a, s := chapter(t)
	collects(t, a, s, []int64{56}, 64, 8)
	for _, c := range [][2]int64{{56, 8}, {8, 40}, {40, 72}} {
		if now, e := a.Copy(c[0]); now != c[1] || e != api.OK {
			t.Errorf("Copy(%d): %d, %v; wanted %d", c[0], now, e, c[1])
		}
	}
	stands(t, a, 80, 8, 40, 72)
}
