package arena_test

import (
	"math/rand"
	"slices"
	"testing"

	"keystone/api"
)

// The example of the chapter.
func TestExample(t *testing.T) {
	a := begin(t, 256)
	x, e := a.Make(1, 2)
	y, err := a.Make(-1, 0)
	if x != 8 || e != api.OK || y != 40 || err != api.OK || a.Used() != 48 {
		t.Fatalf("%d, %v; %d, %v; %d", x, e, y, err, a.Used())
	}
	puts(t, a, 8, 1, -1)
	if b := a.Bytes(); !slices.Equal(b[24:32], []byte{255, 255, 255, 255, 255, 255, 255, 255}) {
		t.Errorf("%v", b)
	}
	a.Flip()
	for _, c := range [][2]int64{{40, 8}, {40, 8}, {8, 24}} {
		if at, e := a.Copy(c[0]); at != c[1] || e != api.OK {
			t.Errorf("Copy(%d): %d, %v", c[0], at, e)
		}
	}
	holds(t, a, 24, 1, 0, -1)
	holds(t, a, 8, -1)
	stands(t, a, 48, 8, 24)
}

// P1504: ahead of the first Flip there is no half ahead, whatever lies in the used one.
func TestCopyAheadOfFlip(t *testing.T) {
	a := begin(t, 256)
	x, y := made(t, a, 1, 2), made(t, a, 3)
	before := picture(a)
	notCopied(t, a, api.ErrAddr, x, y)
	notCopied(t, a, api.ErrAddr, oddAddresses(40)...)
	if got := picture(a); got != before {
		t.Errorf("%s became %s", before, got)
	}
}

// P1504: an object of the same kind, with as many slots, that hold what its own hold, behind the others.
func TestCopy(t *testing.T) {
	a := begin(t, 1024)
	x := made(t, a, 5, 1, -2, x5)
	y := made(t, a, -6)
	z := made(t, a, 7, numbers...)
	a.Flip()
	if now := copied(t, a, z); now != 8 {
		t.Errorf("%d", now)
	}
	if now := copied(t, a, x); now != 24+8*int64(len(numbers)) {
		t.Errorf("%d", now)
	}
	all := a.All()
	holds(t, a, all[0], 7, numbers...)
	holds(t, a, all[1], 5, 1, -2, x5)
	if now := copied(t, a, y); now != all[1]+40 {
		t.Errorf("%d", now)
	}
	stands(t, a, 24+40+8*len(numbers)+8, 8, all[1], all[1]+40)
}

// x5 is a number each of whose bytes is another one.
const x5 = 0x0123456789ABCDEF

// P1504: each object lies there once: asked again, it has the address that it has already, whatever was done to it.
func TestCopiedOnce(t *testing.T) {
	a := begin(t, 256)
	x, y := made(t, a, 1, 2, 3), made(t, a, 4, 5)
	a.Flip()
	first := copied(t, a, y)
	puts(t, a, first, 0, 77)
	second := copied(t, a, x)
	before := picture(a)
	for range 3 {
		if copied(t, a, x) != second || copied(t, a, y) != first {
			t.Errorf("%d, %d", first, second)
		}
	}
	if got := picture(a); got != before {
		t.Errorf("%s became %s", before, got)
	}
	holds(t, a, first, 4, 77)
	holds(t, a, second, 1, 2, 3)
}

// P1504: addresses of the one half are none of the other one.
func TestAddressesOfEachHalf(t *testing.T) {
	a := begin(t, 256)
	x, y, z := made(t, a, 1, 2, 3), made(t, a, 4), made(t, a, 5)
	if x != 8 || y != 40 || z != 56 {
		t.Fatal(x, y, z)
	}
	a.Flip()
	for _, at := range []int64{8, 40, 56} {
		noObject(t, a, at)
	}
	small := made(t, a, 6)
	next := copied(t, a, z)
	if small != 8 || next != 24 {
		t.Fatal(small, next)
	}
	noObject(t, a, 40)
	noObject(t, a, 56)
	notCopied(t, a, api.ErrAddr, 24, 32, 48, 72)
	notCopied(t, a, api.ErrAddr, oddAddresses(64)...)
	holds(t, a, 8, 6)
	holds(t, a, copied(t, a, 8), 1, 2, 3)
	stands(t, a, 64, 8, 24, 40)
}

// P1504: ErrFull, where there is no room beside what was made in the used half; what is smaller still finds some.
func TestCopyFindsNoRoom(t *testing.T) {
	a := begin(t, 256)
	great, small, least := made(t, a, 1, 1, 2, 3, 4, 5, 6), made(t, a, 2, 9), made(t, a, 3)
	a.Flip()
	made(t, a, 4, make([]int64, 23)...)
	before := picture(a)
	notCopied(t, a, api.ErrFull, great, great)
	if got := picture(a); got != before {
		t.Errorf("%s became %s", before, got)
	}
	if now := copied(t, a, small); now != 208 {
		t.Errorf("%d", now)
	}
	holds(t, a, 208, 2, 9)
	if now := copied(t, a, least); now != 232 {
		t.Errorf("%d", now)
	}
	stands(t, a, 240, 8, 208, 232)
	notCopied(t, a, api.ErrFull, great)
	notCopied(t, a, api.ErrAddr, 16, 264)
	a.Flip()
	a.Flip()
	notCopied(t, a, api.ErrAddr, great)
}

// P1504, P6: ErrAddr comes ahead of the address that it has already, and that ahead of ErrFull.
func TestCopyErrorsInOrder(t *testing.T) {
	a := begin(t, 256)
	x, y := made(t, a, 1, 2), made(t, a, 3)
	a.Flip()
	now := copied(t, a, x)
	made(t, a, 4, make([]int64, 25)...)
	made(t, a, 5)
	if a.Used() != 256 {
		t.Fatal(a.Used())
	}
	if again := copied(t, a, x); again != now {
		t.Errorf("%d, %d", again, now)
	}
	notCopied(t, a, api.ErrFull, y)
	notCopied(t, a, api.ErrAddr, 0, 16, y+8, y+16, -8)
}

// P1504: copies lie beside what is made, in the order in which they come.
func TestCopiesBesideMade(t *testing.T) {
	a := begin(t, 512)
	x, y := made(t, a, 1, 11), made(t, a, 2, 21, 22)
	a.Flip()
	p := made(t, a, 3, 31)
	q := copied(t, a, y)
	r := made(t, a, 4)
	s := copied(t, a, x)
	stands(t, a, 24+32+16+24, p, q, r, s)
	if !slices.IsSorted([]int64{p, q, r, s}) {
		t.Error(p, q, r, s)
	}
	holds(t, a, p, 3, 31)
	holds(t, a, q, 2, 21, 22)
	holds(t, a, r, 4)
	holds(t, a, s, 1, 11)
}

// P1504: the half ahead stands as it was, whatever is put, made and copied in the used one.
func TestHalfAheadStands(t *testing.T) {
	a := begin(t, 256)
	var old []int64
	for k := range 8 {
		old = append(old, made(t, a, k, int64(10*k)))
	}
	a.Flip()
	for k := range 4 {
		now := copied(t, a, old[k])
		puts(t, a, now, 0, -1)
		at := made(t, a, -k, -2)
		puts(t, a, at, 0, -3)
	}
	for i, at := range []int64{8, 32, 56, 80} {
		if e := a.Put(at, 0, -4); e != api.OK {
			t.Error(i, e)
		}
	}
	for k := 4; k < 6; k++ {
		holds(t, a, copied(t, a, old[k]), k, int64(10*k))
	}
	for k := range 4 {
		if now := copied(t, a, old[k]); now != int64(8+48*k) {
			t.Errorf("%d: %d", k, now)
		}
	}
}

// P1504: behind two Flips nothing of the first half is there, and what was copied between is what may be copied.
func TestTwoFlips(t *testing.T) {
	a := begin(t, 256)
	x, y := made(t, a, 1, 11), made(t, a, 2, 22)
	a.Flip()
	now := copied(t, a, y)
	a.Flip()
	stands(t, a, 0)
	notCopied(t, a, api.ErrAddr, y)
	if now != x || copied(t, a, now) != 8 {
		t.Errorf("%d", now)
	}
	holds(t, a, 8, 2, 22)
	stands(t, a, 24, 8)
	a.Flip()
	a.Flip()
	stands(t, a, 0)
	for at := int64(0); at < 100; at++ {
		noObject(t, a, at)
		notCopied(t, a, api.ErrAddr, at)
	}
}

// P1504: a Flip forgets which objects were copied, though they have the same addresses again.
func TestFlipForgets(t *testing.T) {
	a := begin(t, 256)
	for round := range int64(6) {
		x, y, z := made(t, a, 1, round), made(t, a, 2), made(t, a, 3, -round)
		a.Flip()
		order := []int64{x, y, z}
		if round%2 == 1 {
			slices.Reverse(order)
		}
		at := int64(8)
		for _, old := range order {
			if now := copied(t, a, old); now != at {
				t.Errorf("%d: %d, wanted %d", old, now, at)
			}
			n, _ := a.Slots(at)
			at += 16 + 8*int64(n)
		}
		holds(t, a, copied(t, a, x), 1, round)
		holds(t, a, copied(t, a, z), 3, -round)
		a.Flip()
		a.Flip()
	}
}

// P1505: all that lay in a half finds room in the other one, in any order; what it holds is as it was.
func TestAllFindsRoom(t *testing.T) {
	r := rand.New(rand.NewSource(1505))
	for range 100 {
		a := begin(t, one(r, 256, 257, 300, 1000, 5000))
		kinds, held := map[int64]int{}, map[int64][]int64{}
		for a.Room(0) {
			n := r.Intn(6)
			for !a.Room(n) {
				n--
			}
			k := r.Intn(100) - 50
			var l []int64
			for range n {
				l = append(l, one(r, numbers...))
			}
			at := made(t, a, k, l...)
			kinds[at], held[at] = k, l
		}
		for range 4 {
			all, used := a.All(), a.Used()
			a.Flip()
			nextKinds, nextHeld := map[int64]int{}, map[int64][]int64{}
			for _, i := range r.Perm(len(all)) {
				now := copied(t, a, all[i])
				nextKinds[now], nextHeld[now] = kinds[all[i]], held[all[i]]
			}
			kinds, held = nextKinds, nextHeld
			if len(a.All()) != len(all) || a.Used() != used || len(held) != len(all) {
				t.Fatalf("%v, %d; wanted %v, %d", a.All(), a.Used(), all, used)
			}
			for at, l := range held {
				holds(t, a, at, kinds[at], l...)
			}
		}
	}
}

// P1505: the greatest half, full of the smallest objects, and of one great one, is copied whole.
func TestGreatHalf(t *testing.T) {
	a := begin(t, 1<<20)
	for a.Room(0) {
		made(t, a, a.Used())
	}
	all := a.All()
	if len(all) != 1<<16 || a.Used() != 1<<20 {
		t.Fatal(len(all), a.Used())
	}
	a.Flip()
	for i := len(all) - 1; i >= 0; i-- {
		copied(t, a, all[i])
	}
	if !slices.Equal(a.All(), all) || a.Room(0) {
		t.Fatal(len(a.All()))
	}
	for i, at := range all {
		if k, e := a.Kind(at); int64(k) != all[len(all)-1-i]-8 || e != api.OK {
			t.Fatal(at, k, e)
		}
		if now := copied(t, a, at); now != all[len(all)-1-i] {
			t.Fatal(at, now)
		}
	}
	a.Flip()
	great := made(t, a, 9, make([]int64, 65536)...)
	puts(t, a, great, 65535, 5)
	made(t, a, 8, 1)
	a.Flip()
	if now := copied(t, a, 16+8*65536+8); now != 8 {
		t.Errorf("%d", now)
	}
	now := copied(t, a, great)
	if v, e := a.Get(now, 65535); now != 32 || v != 5 || e != api.OK || a.Used() != 24+16+8*65536 {
		t.Errorf("%d: %d, %v", now, v, e)
	}
}
