package gc_test

import (
	"bytes"
	"math/rand"
	"slices"
	"testing"

	"keystone/api"
	"keystone/arena"
	"keystone/gc"
)

// alike tells that from now, behind a collection, one comes by the same slots to the same as from was ahead of it, and that what were two objects are two.
func alike(t testing.TB, m model, a *arena.Arena, s gc.Shape, was, now []int64) {
	t.Helper()
	here, back := map[int64]int64{}, map[int64]int64{}
	var pair func(x, y int64)
	pair = func(x, y int64) {
		o := m.find(x)
		if here[x] == y && back[y] == x || o == nil && x == y {
			return
		}
		if o == nil || here[x] != 0 || back[y] != 0 {
			t.Fatalf("%d, which was %d, was %d and is %d:\n%v became\n%v", y, x, back[y], here[x], m, read(a))
		}
		here[x], back[y] = y, x
		kind, e := a.Kind(y)
		got, refs := slots(a, y), told(s, o)
		if e != api.OK || kind != o.kind || len(got) != len(o.slots) {
			t.Fatalf("%d, which was %v: %d, %v, %v", y, o, kind, got, e)
		}
		for slot, v := range o.slots {
			if slices.Contains(refs, slot) {
				pair(v, got[slot])
			} else if v != got[slot] {
				t.Fatalf("%d, which was %v: slot %d holds %d", y, o, slot, got[slot])
			}
		}
	}
	for i := range was {
		pair(was[i], now[i])
	}
	if len(a.All()) != len(here) {
		t.Fatalf("%d objects, of which %d are reached", len(a.All()), len(here))
	}
}

// again tells that Collect at once again changes no byte.
func again(t testing.TB, a *arena.Arena, s gc.Shape, roots []int64) {
	t.Helper()
	before := a.Bytes()
	now, e := gc.Collect(a, s, roots...)
	if e != api.OK || !slices.Equal(now, roots) || !bytes.Equal(a.Bytes(), before) {
		t.Fatalf("Collect again from %v: %v, %v\n%v became\n%v", roots, now, e, before, a.Bytes())
	}
}

// P1604, T7: as many bytes as Live told, the same graph, and nothing else; many collections one behind the other.
func TestWhatFollows(t *testing.T) {
	r := newMaker(1604)
	kept := 0
	for range 300 {
		r.tidy = r.Intn(2) == 0
		a, s := begin(t, one(r.Rand, 256, 400, 1000)), r.shape()
		for range 6 {
			r.fill(t, a)
			was := slices.DeleteFunc(r.roots(a.All()), func(at int64) bool { return at != 0 && !slices.Contains(a.All(), at) })
			m, live := read(a), gc.Live(a, s, was...)
			list := gc.Reach(a, s, was...)
			now, e := gc.Collect(a, s, was...)
			if e != api.OK || a.Used() != live || len(a.All()) != len(list) {
				t.Fatalf("%v: %d bytes, wanted %d", e, a.Used(), live)
			}
			alike(t, m, a, s, was, now)
			kept += len(list)
			if r.tidy {
				reaches(t, a, s, now, a.All()...)
				again(t, a, s, now)
			}
		}
	}
	if kept < 3000 {
		t.Errorf("only %d", kept)
	}
}

// P1604: a number that was none may be an object's address behind a collection; the next one goes by it.
func TestNumberThatBecomesAnAddress(t *testing.T) {
	a := begin(t, 256)
	made(t, a, 0, 0, 0)
	x := made(t, a, 0, 0)
	p := made(t, a, 0, 32, 48, x)
	collects(t, a, every, []int64{p}, 40+24, 8)
	holds(t, a, 8, 0, 32, 48, 48)
	puts(t, a, 8, 32, 48, 0)
	collects(t, a, every, []int64{8}, 40+24, 8)
	holds(t, a, 8, 0, 32, 48, 0)
	holds(t, a, 48, 0, 0)
}

// P1604: objects are made, put into one another and dropped between collections: a list is worn at its end and grows ahead of it.
func TestManyCollections(t *testing.T) {
	a := begin(t, 400)
	s := gc.Table{{0}}
	head, flips := int64(0), 0
	var want []int64
	for i := range int64(2000) {
		if !a.Room(2) {
			if len(want) > 12 {
				want = want[:5]
				cut(t, a, head, 5)
			}
			now, e := gc.Collect(a, s, head)
			if e != api.OK || a.Used() != 32*len(want) {
				t.Fatalf("%v, %d bytes for %d objects", e, a.Used(), len(want))
			}
			head = now[0]
			flips++
			again(t, a, s, now)
		}
		if !a.Room(2) {
			want = want[:0]
			head = 0
			continue
		}
		if at := made(t, a, 0, head, i); i%3 > 0 {
			head = at
			want = slices.Insert(want, 0, i)
		}
		if got := list(a, head); !slices.Equal(got, want) {
			t.Fatalf("%v, wanted %v", got, want)
		}
	}
	if flips < 50 {
		t.Errorf("only %d", flips)
	}
}

// list is what the objects of a chain hold beside the next one's address; cut leaves so many of them.
func list(a *arena.Arena, at int64) []int64 {
	var l []int64
	for at != 0 {
		v, _ := a.Get(at, 1)
		l = append(l, v)
		at, _ = a.Get(at, 0)
	}
	return l
}

func cut(t testing.TB, a *arena.Arena, at int64, n int) {
	t.Helper()
	for range n - 1 {
		at, _ = a.Get(at, 0)
	}
	puts(t, a, at, 0)
}

// P1604: from the same objects, laid down in another order, one comes to the same half: the order is that of the roots and slots alone.
func TestWhereObjectsLayIsForgotten(t *testing.T) {
	r := rand.New(rand.NewSource(5))
	var want []byte
	for range 50 {
		a := begin(t, 1000)
		at := make([]int64, 8)
		for _, i := range r.Perm(8) {
			if r.Intn(3) == 0 {
				made(t, a, 99, 1, 2)
			}
			at[i] = made(t, a, i, 0, 0, int64(i))
		}
		for i := range at {
			puts(t, a, at[i], at[(i*3+1)%8], at[(i+5)%8])
		}
		s := each(func(int, int) []int { return []int{1, 0} })
		if _, e := gc.Collect(a, s, at[3], at[6]); e != api.OK {
			t.Fatal(e)
		}
		if want == nil {
			want = a.Bytes()
		}
		if !bytes.Equal(a.Bytes(), want) || len(want) != 8*40 {
			t.Fatalf("%v, wanted %v", a.Bytes(), want)
		}
	}
}
