package gc_test

import (
	"math"
	"slices"
	"testing"

	"keystone/api"
	"keystone/arena"
	"keystone/gc"
)

// A chain of objects, from its beginning, its middle and its end.
func TestChain(t *testing.T) {
	for _, length := range []int{1, 2, 3, 10, 1000, 43690} {
		a := begin(t, 1<<20)
		last := int64(0)
		var all []int64
		for range length {
			last = made(t, a, 0, last)
			all = append(all, last)
		}
		slices.Reverse(all)
		s := gc.Table{{0}}
		reaches(t, a, s, all[:1], all...)
		reaches(t, a, s, all[length/2:length/2+1], all[length/2:]...)
		reaches(t, a, s, all[length-1:], all[length-1:]...)
		collects(t, a, s, all[length/2:length/2+1], 24*(length-length/2), 8)
		for i, at := range a.All() {
			next := at + 24
			if i == length-length/2-1 {
				next = 0
			}
			if v, _ := a.Get(at, 0); v != next || at != 8+24*int64(i) {
				t.Fatalf("%d leads to %d", at, v)
			}
		}
	}
}

// A ring, from each of its objects.
func TestRing(t *testing.T) {
	for _, length := range []int{1, 2, 3, 9} {
		for from := range length {
			a := begin(t, 512)
			all := make([]int64, length)
			for i := range all {
				all[i] = made(t, a, 0, 0, int64(i))
			}
			for i := range all {
				puts(t, a, all[i], all[(i+1)%length])
			}
			s := gc.Table{{0}}
			reaches(t, a, s, all[from:from+1], append(slices.Clone(all[from:]), all[:from]...)...)
			collects(t, a, s, all[from:from+1], 32*length, 8)
			for i := range length {
				holds(t, a, 8+32*int64(i), 0, 8+32*int64((i+1)%length), int64((from+i)%length))
			}
		}
	}
}

// tree makes one of so many ages: its root.
func tree(t testing.TB, a *arena.Arena, ages int) int64 {
	if ages == 0 {
		return 0
	}
	left := tree(t, a, ages-1)
	return made(t, a, 0, int64(ages), left, tree(t, a, ages-1))
}

// A tree lies age by age behind a collection.
func TestTree(t *testing.T) {
	a := begin(t, 1<<16)
	const ages = 8
	root := tree(t, a, ages)
	collects(t, a, gc.Table{{1, 2}}, []int64{root}, 40*(1<<ages-1), 8)
	for i := range 1<<ages - 1 {
		age := ages
		for n := i + 1; n > 1; n /= 2 {
			age--
		}
		left, right := 8+40*int64(2*i+1), 8+40*int64(2*i+2)
		if age == 1 {
			left, right = 0, 0
		}
		holds(t, a, 8+40*int64(i), 0, int64(age), left, right)
	}
}

// What many lead to stays one, and is copied once.
func TestSharedBelow(t *testing.T) {
	a := begin(t, 2048)
	below := made(t, a, 1, 42)
	var l []int64
	for range 20 {
		l = append(l, made(t, a, 0, below, below, below))
	}
	top := made(t, a, -2, l...)
	collects(t, a, gc.Table{{0, 2}}, []int64{top, top}, 176+20*40+24, 8, 8)
	one := 8 + 176 + 20*int64(40)
	for i := range l {
		holds(t, a, 184+40*int64(i), 0, one, below, one)
	}
	holds(t, a, one, 1, 42)
}

// Diamonds, one below the other: as many ways as 2 to the 20, but 40 objects.
func TestDiamonds(t *testing.T) {
	a := begin(t, 4096)
	at := int64(0)
	for range 40 {
		at = made(t, a, 0, at, at)
	}
	m := read(a)
	now, e := gc.Collect(a, every, at)
	if e != api.OK || a.Used() != 40*32 {
		t.Fatalf("%v, %d", e, a.Used())
	}
	alike(t, m, a, every, []int64{at}, now)
}

// A shape of the test's own: the kind's bits say which slots hold addresses.
type bits struct{ asked int }

func (b *bits) Refs(kind, slots int) []int {
	b.asked++
	var l []int
	for slot := range min(slots, 64) {
		if kind>>slot&1 == 1 {
			l = append(l, slot)
		}
	}
	return l
}

func TestShapeByBits(t *testing.T) {
	a := begin(t, 512)
	x, y := made(t, a, 0, 8), made(t, a, 1, 0)
	p := made(t, a, 0b1010, x, y, x, x)
	q := made(t, a, -1, p, y)
	s := &bits{}
	collects(t, a, s, []int64{q}, 32+48+24+24, 8)
	holds(t, a, 8, -1, 40, 88)
	holds(t, a, 40, 0b1010, x, 88, x, 112)
	holds(t, a, 88, 1, 0)
	holds(t, a, 112, 0, 8)
	if s.asked == 0 {
		t.Error("the shape was not asked")
	}
}

// P2: a shape that tells one list all the time, its spare room filled, finds it as it was; what it tells next is what is gone by.
type lender struct {
	list  []int
	spare int
	asked bool
}

func (l *lender) Refs(kind, slots int) []int {
	l.list, l.asked = l.list[:0], true
	for slot := slots - 1; slot >= 0; slot-- {
		l.list = append(l.list, slot, slot)
	}
	for i := len(l.list); i < cap(l.list); i++ {
		l.list[:cap(l.list)][i] = l.spare
	}
	return l.list
}

func TestShapeThatLendsItsList(t *testing.T) {
	r := newMaker(2)
	for range 100 {
		a := begin(t, 700)
		r.fill(t, a)
		s := &lender{list: make([]int, 0, 40), spare: r.Intn(9)}
		want := each(func(_, slots int) []int {
			l := count(slots)
			slices.Reverse(l)
			return l
		})
		roots := slices.DeleteFunc(r.roots(a.All()), func(at int64) bool { return at != 0 && !slices.Contains(a.All(), at) })
		kept, now, _ := read(a).collect(want, roots...)
		reaches(t, a, s, roots, read(a).reach(want, roots...)...)
		collects(t, a, s, roots, len(kept.bytes()), now...)
		if got := read(a); !slices.EqualFunc(got, kept, func(x, y object) bool { return x.at == y.at && x.kind == y.kind && slices.Equal(x.slots, y.slots) }) {
			t.Fatalf("%v, wanted %v", got, kept)
		}
		if spare := s.list[len(s.list):cap(s.list)]; s.asked && slices.ContainsFunc(spare, func(v int) bool { return v != s.spare }) {
			t.Fatalf("%v", spare)
		}
	}
}

// P1: a shape that tells something else each time, or does things to the arena, does no more harm than that: calls end.
func TestShapesThatChange(t *testing.T) {
	r := newMaker(3)
	for range 200 {
		a := begin(t, one(r.Rand, 256, 700))
		r.fill(t, a)
		s := each(func(kind, slots int) []int {
			switch r.Intn(12) {
			case 0:
				a.Make(kind, slots)
			case 1:
				a.Put(one(r.Rand, append(a.All(), 8)...), 0, one(r.Rand, append(a.All(), 8)...))
			case 2:
				a.Copy(int64(r.Intn(100)) * 8)
			case 3:
				a.Flip()
			}
			return r.Perm(slots + 1)
		})
		roots := r.roots(a.All())
		gc.Reach(a, s, roots...)
		gc.Live(a, s, roots...)
		gc.Collect(a, s, roots...)
	}
}

// P1602: each object's slots are those that were told of it when it was copied, also where the shape tells something else each time.
func TestShapeThatChangesItsMind(t *testing.T) {
	r := newMaker(4)
	for range 200 {
		a := begin(t, 700)
		r.tidy = true
		r.fill(t, a)
		roots := slices.DeleteFunc(r.roots(a.All()), func(at int64) bool { return at != 0 && !slices.Contains(a.All(), at) })
		was := read(a)
		var asked [][]int
		s := each(func(_, slots int) []int {
			l := r.Perm(slots)[:r.Intn(slots+1)]
			asked = append(asked, slices.Clone(l))
			return l
		})
		now, e := gc.Collect(a, s, roots...)
		if e != api.OK || len(asked) != len(a.All()) {
			t.Fatalf("%v: asked %d times of %d objects", e, len(asked), len(a.All()))
		}
		told := func(kind int, slots int) []int {
			l := asked[0]
			asked = asked[1:]
			return l
		}
		held(t, was, read(a), each(told), roots, now)
	}
}

// held holds what is kept against what was, the shape asked once an object, in their order.
func held(t testing.TB, was, is model, s gc.Shape, roots, now []int64) {
	t.Helper()
	old := map[int64]int64{0: 0}
	for i := range roots {
		old[now[i]] = roots[i]
	}
	for _, x := range is {
		o := was.find(old[x.at])
		if o == nil || o.kind != x.kind || len(o.slots) != len(x.slots) {
			t.Fatalf("%v was %v", x, o)
		}
		refs := s.Refs(x.kind, len(x.slots))
		for slot, v := range x.slots {
			if !slices.Contains(refs, slot) {
				if v != o.slots[slot] {
					t.Fatalf("%v was %v", x, o)
				}
				continue
			}
			if at, is := old[v]; is && at != o.slots[slot] {
				t.Fatalf("%v was %v", x, o)
			}
			old[v] = o.slots[slot]
		}
	}
}

// P1601: shapes that tell nothing, all, or the greatest and least numbers alone.
func TestShapesOfOddSlots(t *testing.T) {
	a := begin(t, 256)
	x := made(t, a, 0)
	p := made(t, a, 0, x, x)
	for _, refs := range [][]int{nil, {}, {math.MinInt}, {math.MaxInt}, {math.MinInt, math.MaxInt, -1, 2}} {
		reaches(t, a, gc.Table{refs}, []int64{p}, p)
	}
	collects(t, a, gc.Table{{math.MinInt, 1, math.MaxInt, 2, -1}}, []int64{p}, 48, 8)
	holds(t, a, 8, 0, x, 40)
}
