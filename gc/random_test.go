package gc_test

import (
	"bytes"
	"math"
	"math/rand"
	"slices"
	"testing"

	"keystone/api"
	"keystone/arena"
	"keystone/gc"
)

// maker makes graphs of objects, shapes and roots at random.
type maker struct {
	*rand.Rand
	tidy bool // slots hold nothing but 0 and addresses
}

func newMaker(seed int64) *maker { return &maker{Rand: rand.New(rand.NewSource(seed))} }

func (r *maker) kind() int {
	if r.Intn(20) == 0 {
		return one(r, 100, -100, -101, math.MaxInt, math.MinInt, math.MinInt+1)
	}
	return r.Intn(10) - 4
}

// number is what a slot may hold: mostly one of these addresses.
func (r *maker) number(l []int64) int64 {
	switch {
	case r.Intn(6) == 0:
		return 0
	case r.tidy || r.Intn(6) > 0:
		return one(r, append(l, 0)...)
	case r.Intn(2) == 0:
		return 8 * int64(r.Intn(60)-10)
	}
	return one(r, oddAddresses(int64(r.Intn(40))*8)...)
}

// fill makes objects, as many as find room or fewer, and puts numbers into some slots of all.
func (r *maker) fill(t testing.TB, a *arena.Arena) {
	t.Helper()
	for n := r.Intn(30); n > 0; n-- {
		if slots := r.Intn(7); a.Room(slots) {
			made(t, a, r.kind(), make([]int64, slots)...)
		}
	}
	all := a.All()
	for _, at := range all {
		for slot := range slots(a, at) {
			if r.Intn(4) > 0 {
				a.Put(at, slot, r.number(all))
			}
		}
	}
}

// table tells slots of some kinds: in any order, some twice, some that are none.
func (r *maker) table() gc.Table {
	s := make(gc.Table, r.Intn(7))
	for kind := range s {
		for n := r.Intn(6); n > 0; n-- {
			slot := r.Intn(7)
			if r.Intn(12) == 0 {
				slot = one(r, oddSlots(r.Intn(7))...)
			}
			s[kind] = append(s[kind], slot)
		}
	}
	return s
}

// shape is a table, or one that goes by kind and slots.
func (r *maker) shape() gc.Shape {
	switch r.Intn(6) {
	case 0:
		return every
	case 1:
		step := 1 + r.Intn(3)
		return each(func(kind, slots int) []int {
			var l []int
			for slot := slots - 1; slot >= -1; slot -= step {
				l = append(l, slot^kind&1)
			}
			return l
		})
	}
	return r.table()
}

func (r *maker) roots(l []int64) []int64 {
	var roots []int64
	for n := r.Intn(4); n > 0; n-- {
		at := one(r, append(l, 0)...)
		if r.Intn(16) == 0 {
			at = one(r, oddAddresses(int64(r.Intn(40))*8)...)
		}
		roots = append(roots, at)
	}
	return roots
}

// collected asks Reach, Live and Collect of an arena, and holds all against the plain writing; the roots' addresses, and whether there was a collection.
func collected(t testing.TB, a *arena.Arena, s gc.Shape, roots ...int64) ([]int64, bool) {
	t.Helper()
	m := read(a)
	reaches(t, a, s, roots, m.reach(s, roots...)...)
	if got, want := gc.Live(a, s, roots...), m.live(s, roots...); got != want {
		t.Fatalf("Live of %v: %d, wanted %d", roots, got, want)
	}
	kept, now, ok := m.collect(s, roots...)
	got, e := gc.Collect(a, s, roots...)
	if want := map[bool]api.Errno{true: api.OK, false: api.ErrAddr}[ok]; e != want || !slices.Equal(got, now) {
		t.Fatalf("Collect from %v: %v, %v; wanted %v, %v of\n%v", roots, got, e, now, want, m)
	}
	if !bytes.Equal(a.Bytes(), kept.bytes()) || !slices.Equal(a.All(), addresses(kept)) || a.Used() != len(kept.bytes()) {
		t.Fatalf("Collect from %v:\n%v, wanted\n%v of\n%v", roots, read(a), kept, m)
	}
	return got, ok
}

func addresses(m model) []int64 {
	var l []int64
	for _, x := range m {
		l = append(l, x.at)
	}
	return l
}

// P1601, P1602: graphs of any kind, by shapes of any kind, held against the plain writing; many collections one behind the other.
func TestAtRandom(t *testing.T) {
	r := newMaker(16)
	done, refused, lost := 0, 0, 0
	for range 600 {
		r.tidy = r.Intn(2) == 0
		a := begin(t, one(r.Rand, 256, 257, 300, 600, 1500))
		s := r.shape()
		for range 8 {
			r.fill(t, a)
			if r.Intn(3) == 0 {
				s = r.shape()
			}
			was := len(a.All())
			if _, ok := collected(t, a, s, r.roots(a.All())...); !ok {
				refused++
				continue
			}
			done++
			if kept := len(a.All()); kept > 0 && kept < was {
				lost++
			}
		}
	}
	if done < 3000 || refused < 100 || lost < 1000 {
		t.Errorf("only %d, %d, %d", done, refused, lost)
	}
}

// P1601: roots and slots of numbers of any kind.
func FuzzGraph(f *testing.F) {
	f.Add([]byte{1, 2, 3, 4, 5, 6, 7, 8, 9, 10, 11, 12, 13, 14, 15, 16, 17, 18})
	f.Fuzz(func(t *testing.T, b []byte) {
		a := begin(t, 512)
		s := make(gc.Table, 4)
		next := func() int64 {
			if len(b) == 0 {
				return 0
			}
			v := int64(int8(b[0]))
			b = b[1:]
			return v
		}
		for kind := range s {
			for n := next() & 3; n > 0; n-- {
				s[kind] = append(s[kind], int(next()))
			}
		}
		for len(b) > 3 {
			var l []int64
			for n := next() & 3; n > 0; n-- {
				l = append(l, 8*next())
			}
			if a.Room(len(l)) {
				made(t, a, int(next()), l...)
			}
		}
		roots := []int64{8 * next(), 8 * next(), 0}
		for range 3 {
			collected(t, a, s, roots...)
		}
	})
}
