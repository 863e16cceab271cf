package gc_test

import (
	"slices"
	"testing"

	"keystone/api"
	"keystone/gc"
)

// P1601: no roots, and roots that lead nowhere, lead to nothing.
func TestReachOfNothing(t *testing.T) {
	a := begin(t, 256)
	reaches(t, a, every, nil)
	reaches(t, a, every, []int64{})
	reaches(t, a, every, []int64{0, 0, 8})
	x := made(t, a, 0, 0)
	made(t, a, 0, x)
	reaches(t, a, every, nil)
	reaches(t, a, every, []int64{0})
	for _, at := range oddAddresses(48) {
		reaches(t, a, every, []int64{at})
		reaches(t, a, every, []int64{at, x, at, 0}, x)
	}
	for at := int64(-40); at < 100; at++ {
		if at != 8 && at != 32 {
			reaches(t, a, every, []int64{at})
		}
	}
}

// P1601: what lies in the half ahead is reached neither by a root nor by a slot; that Reach asks for it copies nothing.
func TestReachLeavesTheHalfAhead(t *testing.T) {
	a := begin(t, 256)
	x := made(t, a, 0)
	y := made(t, a, 0, x)
	z := made(t, a, 0, y)
	a.Flip()
	reaches(t, a, every, []int64{x, y, z})
	if now, e := a.Copy(y); now != 8 || e != api.OK {
		t.Fatal(now, e)
	}
	reaches(t, a, every, []int64{z, y, x}, 8)
	reaches(t, a, every, []int64{8, z}, 8)
	puts(t, a, 8, z)
	reaches(t, a, every, []int64{8}, 8)
	stands(t, a, 24, 8)
	for at, want := range map[int64]int64{y: 8, z: 32} {
		if now, e := a.Copy(at); now != want || e != api.OK {
			t.Errorf("Copy(%d): %d, %v", at, now, e)
		}
	}
}

// P1601: the roots come first, in their order, each once.
func TestReachRootsFirst(t *testing.T) {
	a := begin(t, 256)
	x := made(t, a, 0, 0)
	y := made(t, a, 0, 0)
	z := made(t, a, 0, 0)
	puts(t, a, x, z)
	reaches(t, a, every, []int64{x, y}, x, y, z)
	reaches(t, a, every, []int64{y, x}, y, x, z)
	reaches(t, a, every, []int64{z, x, y}, z, x, y)
	reaches(t, a, every, []int64{x, x, 0, y, x, y, -8}, x, y, z)
	reaches(t, a, every, []int64{x, z}, x, z)
	reaches(t, a, every, []int64{y}, y)
	reaches(t, a, none, []int64{x}, x)
	reaches(t, a, none, []int64{z, 0, x, z}, z, x)
}

// P1601: behind the roots, object by object of the list as it grows: not down to the last one behind the first slot, nor by address.
func TestReachListGrows(t *testing.T) {
	a := begin(t, 512)
	var l [8]int64
	for i := range l {
		l[i] = made(t, a, 0, 0, 0)
	}
	puts(t, a, l[7], l[2], l[5])
	puts(t, a, l[2], l[6], l[0])
	puts(t, a, l[5], l[0], l[3])
	puts(t, a, l[6], l[4], l[7])
	reaches(t, a, every, []int64{l[7]}, l[7], l[2], l[5], l[6], l[0], l[3], l[4])
	reaches(t, a, every, []int64{l[5], l[7]}, l[5], l[7], l[0], l[3], l[2], l[6], l[4])
	reaches(t, a, every, []int64{l[6], l[1]}, l[6], l[1], l[4], l[7], l[2], l[5], l[0], l[3])
}

// P1601: in the order in which the shape tells the slots; one that is told twice, or is none, is passed over.
func TestReachAsTheShapeTells(t *testing.T) {
	a := begin(t, 256)
	x, y, z := made(t, a, 1), made(t, a, 1), made(t, a, 1)
	p := made(t, a, 0, x, y, z)
	for _, c := range []struct{ refs, want []int }{
		{nil, nil},
		{[]int{0}, []int{0}},
		{[]int{2}, []int{2}},
		{[]int{0, 1, 2}, []int{0, 1, 2}},
		{[]int{2, 0, 1}, []int{2, 0, 1}},
		{[]int{1, 2, 0}, []int{1, 2, 0}},
		{[]int{1, 1, 0, 1}, []int{1, 0}},
		{[]int{3, 2, -1, 0, 4}, []int{2, 0}},
		{oddSlots(3), nil},
		{append(append(oddSlots(3), 1), oddSlots(3)...), []int{1}},
	} {
		want := []int64{p}
		for _, slot := range c.want {
			want = append(want, []int64{x, y, z}[slot])
		}
		reaches(t, a, gc.Table{c.refs}, []int64{p}, want...)
	}
}

// P1601: the slots are those that the shape tells of just this object's kind and number of slots.
func TestReachAsksOfKindAndSlots(t *testing.T) {
	a := begin(t, 512)
	x, y := made(t, a, 7), made(t, a, 7)
	var asked [][2]int
	s := each(func(kind, slots int) []int {
		asked = append(asked, [2]int{kind, slots})
		if kind == -3 {
			return []int{slots - 1}
		}
		return []int{kind}
	})
	p := made(t, a, -3, 0, x)
	q := made(t, a, 2, 0, x, y, p)
	r := made(t, a, -9, p, q)
	reaches(t, a, s, []int64{q, p, r}, q, p, r, y, x)
	want := [][2]int{{2, 4}, {-3, 2}, {-9, 2}, {7, 0}, {7, 0}}
	if len(asked) < 5 || !slices.Equal(asked[:5], want) {
		t.Errorf("asked of %v, wanted %v", asked, want)
	}
}

// P1601: a slot that holds 0, or what is no address, leads nowhere.
func TestReachNoAddressInSlot(t *testing.T) {
	a := begin(t, 256)
	x := made(t, a, 0, 0)
	p := made(t, a, 0, 0, x, 0)
	for _, v := range append(oddAddresses(64), 0, 16, 24, 40) {
		puts(t, a, p, v, x, v)
		puts(t, a, x, v)
		reaches(t, a, every, []int64{p}, p, x)
		reaches(t, a, every, []int64{x}, x)
	}
}

// P1601: what looks like an object within another one's slots is none.
func TestReachNoObjectWithinObject(t *testing.T) {
	a := begin(t, 256)
	x := made(t, a, 0, 0, 0, 0, 1, 0)
	p := made(t, a, 0, 24, 32, 40)
	reaches(t, a, every, []int64{p, 16, 24, 32, 40, 48}, p)
	puts(t, a, p, 24, 8, 40)
	reaches(t, a, every, []int64{p}, p, x)
}

// P1601: objects that hold themselves, rings, and what two hold are told once.
func TestReachEachOnce(t *testing.T) {
	a := begin(t, 512)
	self := made(t, a, 0, 0, 0)
	puts(t, a, self, self, self)
	reaches(t, a, every, []int64{self}, self)
	x, y, z := made(t, a, 0, 0), made(t, a, 0, 0), made(t, a, 0, 0)
	puts(t, a, x, y)
	puts(t, a, y, z)
	puts(t, a, z, x)
	reaches(t, a, every, []int64{y}, y, z, x)
	reaches(t, a, every, []int64{z, x}, z, x, y)
	p, q := made(t, a, 0, x, self), made(t, a, 0, self, x)
	reaches(t, a, every, []int64{q, p}, q, p, self, x, y, z)
	both := made(t, a, 0, p, q, p)
	reaches(t, a, every, []int64{both}, both, p, q, x, self, y, z)
}

// P1601: Live tells the bytes of W11: 16 each, and 8 for each slot, whether it is told or not.
func TestLive(t *testing.T) {
	a := begin(t, 1<<20)
	x := made(t, a, 0)
	y := made(t, a, 1, x)
	z := made(t, a, 2, make([]int64, 65536)...)
	p := made(t, a, 0, x, y, z)
	s := gc.Table{{2}, {}, nil}
	for _, c := range []struct {
		want  int
		roots []int64
	}{
		{0, nil}, {0, []int64{0}}, {0, []int64{7, -8}}, {16, []int64{x}}, {16, []int64{x, 0, x, 3}}, {24, []int64{y}},
		{40, []int64{y, x}}, {16 + 8*65536, []int64{z}}, {40 + 16 + 8*65536, []int64{p}}, {a.Used(), []int64{x, y, p}},
	} {
		if got := gc.Live(a, s, c.roots...); got != c.want {
			t.Errorf("Live of %v: %d, wanted %d", c.roots, got, c.want)
		}
	}
}

// P1601: arrays of as many slots as there may be, each told.
func TestReachGreat(t *testing.T) {
	a := begin(t, 1<<20)
	x := made(t, a, 0)
	l := make([]int64, 65536)
	l[65535] = x
	p := made(t, a, -2, l...)
	reaches(t, a, gc.Table{}, []int64{p}, p, x)
	chain := int64(0)
	var want []int64
	for a.Room(1) {
		chain = made(t, a, -2, chain)
		want = append(want, chain)
	}
	slices.Reverse(want)
	reaches(t, a, gc.Table{}, []int64{chain}, want...)
}
