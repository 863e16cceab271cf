package heap_test

import (
	"math"
	"math/rand"
	"slices"
	"testing"

	"keystone/api"
	"keystone/heap"
)

// reaches holds what is reached from some roots against what is wanted.
func reaches(t testing.TB, h teller, roots []int64, want ...int64) {
	t.Helper()
	if got := h.Reach(roots...); !slices.Equal(got, want) {
		t.Errorf("from %v: %v, wanted %v", roots, got, want)
	}
}

// refs are objects' numbers.
func refs(l ...int64) []int64 { return l }

// P1303: from nothing, from nil and from what is no object's number one comes nowhere.
func TestReachFromNothing(t *testing.T) {
	h := begin(t)
	reaches(t, h, nil)
	reaches(t, h, refs(0, 1, -1))
	a := made(t, h, "A")
	b := made(t, h, "B")
	puts(t, h, a, 1, obj(b))
	reaches(t, h, nil)
	reaches(t, h, refs())
	reaches(t, h, refs(0))
	reaches(t, h, oddNumbers(2))
	reaches(t, h, slices.Concat(oddNumbers(2), refs(b), oddNumbers(2), refs(a), oddNumbers(2)), b, a)
}

// P1303: each root once, in the order in which they come first; behind them what they hold.
func TestReachFromOneSeveralTimes(t *testing.T) {
	h := begin(t)
	a, b, c := made(t, h, "A"), made(t, h, "A"), made(t, h, "A")
	reaches(t, h, refs(a), a)
	reaches(t, h, refs(a, a, a), a)
	reaches(t, h, refs(c, a, c, b, a), c, a, b)
	puts(t, h, a, 1, obj(b))
	puts(t, h, b, 1, obj(c))
	reaches(t, h, refs(a), a, b, c)
	reaches(t, h, refs(b), b, c)
	reaches(t, h, refs(c, a), c, a, b)
	reaches(t, h, refs(a, c), a, c, b)
	reaches(t, h, refs(c, b, a, c), c, b, a)
}

// P1303: rings, and an object that holds itself.
func TestReachInRings(t *testing.T) {
	h := begin(t)
	a, b, c := made(t, h, "A"), made(t, h, "B"), made(t, h, "C")
	alone := made(t, h, "A")
	puts(t, h, a, 1, obj(b))
	puts(t, h, b, 1, obj(c))
	puts(t, h, c, 1, obj(a))
	puts(t, h, alone, 1, obj(alone))
	puts(t, h, alone, 3, obj(alone))
	reaches(t, h, refs(a), a, b, c)
	reaches(t, h, refs(b), b, c, a)
	reaches(t, h, refs(c, b), c, b, a)
	reaches(t, h, refs(alone), alone)
	reaches(t, h, refs(alone, b), alone, b, c, a)
	l := row(t, h, "LObject;", 3)
	puts(t, h, l, 1, obj(l))
	reaches(t, h, refs(l), l)
	puts(t, h, l, 2, obj(a))
	puts(t, h, a, 3, obj(l))
	reaches(t, h, refs(c), c, a, b, l)
}

// P1303: objects that several hold are told once, level by level: first all of one object's slots, then those of the next one.
func TestReachInOrder(t *testing.T) {
	h := begin(t)
	var l []int64
	for range 7 {
		l = append(l, row(t, h, "LObject;", 3))
	}
	for _, x := range [][3]int64{{l[0], 0, l[3]}, {l[0], 2, l[1]}, {l[3], 0, l[6]}, {l[3], 1, l[1]}, {l[3], 2, l[5]}, {l[1], 0, l[2]}, {l[1], 2, l[6]}, {l[6], 1, l[4]}, {l[2], 0, l[0]}} {
		puts(t, h, x[0], int(x[1]), obj(x[2]))
	}
	reaches(t, h, refs(l[0]), l[0], l[3], l[1], l[6], l[5], l[2], l[4])
	reaches(t, h, refs(l[1]), l[1], l[2], l[6], l[0], l[4], l[3], l[5])
	reaches(t, h, refs(l[5], l[6]), l[5], l[6], l[4])
	reaches(t, h, refs(l[6], l[2]), l[6], l[2], l[4], l[0], l[3], l[1], l[5])
}

// P1303: through fields of each class of the chain, hidden ones, too; a number leads nowhere, though an object has it.
func TestReachByFields(t *testing.T) {
	h := begin(t)
	a, b, d := made(t, h, "A"), made(t, h, "B"), made(t, h, "D")
	numbers := row(t, h, "I", 3)
	puts(t, h, a, 0, num(b))
	puts(t, h, b, 0, num(a))
	puts(t, h, b, 5, num(d))
	puts(t, h, b, 6, num(numbers))
	for slot := range 3 {
		puts(t, h, numbers, slot, num(int64(slot)+1))
	}
	reaches(t, h, refs(a), a)
	reaches(t, h, refs(b), b)
	reaches(t, h, refs(numbers), numbers)
	faces := row(t, h, "LI;", 2)
	puts(t, h, faces, 1, obj(b))
	puts(t, h, d, 9, obj(a))
	puts(t, h, d, 7, obj(faces))
	puts(t, h, d, 2, obj(numbers))
	puts(t, h, d, 6, obj(d))
	reaches(t, h, refs(d), d, numbers, faces, a, b)
	puts(t, h, d, 7, obj(0))
	reaches(t, h, refs(d), d, numbers, a)
	puts(t, h, d, 2, obj(0))
	puts(t, h, d, 9, obj(0))
	reaches(t, h, refs(d), d)
}

// P1303: Reach changes nothing, and what was told stays as it was when more is put and made.
func TestReachChangesNothing(t *testing.T) {
	h := begin(t)
	a := made(t, h, "A")
	before := picture(h)
	told := h.Reach(a, 0, 9)
	if picture(h) != before {
		t.Errorf("%s became %s", before, picture(h))
	}
	b := made(t, h, "A")
	puts(t, h, a, 1, obj(b))
	reaches(t, h, refs(a), a, b)
	if !slices.Equal(told, refs(a)) {
		t.Errorf("%v", told)
	}
}

// P1, P1303: a row of very many objects, each holding the next one, and one object that holds very many.
func TestReachFar(t *testing.T) {
	h := heap.New(world(t, family()...), math.MaxInt)
	var all []int64
	for i := range 200000 {
		n := made(t, h, "A")
		if i > 0 {
			puts(t, h, n-1, 1, obj(n))
		}
		all = append(all, n)
	}
	reaches(t, h, refs(all[0]), all...)
	l := row(t, h, "LA;", api.MaxArray)
	for slot := range api.MaxArray {
		puts(t, h, l, slot, obj(all[len(all)-1-slot]))
	}
	back := slices.Clone(all[len(all)-api.MaxArray:])
	slices.Reverse(back)
	reaches(t, h, refs(l), append(refs(l), back...)...)
	many := slices.Repeat(all[len(all)-3:], 100000)
	reaches(t, h, many, all[len(all)-3:]...)
}

// web is a heap whose objects hold one another at random.
func web(t testing.TB, r *rand.Rand, h, m teller) {
	t.Helper()
	for range 1 + r.Intn(12) {
		size := r.Intn(4)
		for _, h := range []teller{h, m} {
			row(t, h, "LObject;", size)
		}
	}
	for range r.Intn(40) {
		ref, slot, v := 1+int64(r.Intn(h.Count())), r.Intn(4), obj(int64(r.Intn(h.Count()+1)))
		if a, b := h.Put(ref, slot, v), m.Put(ref, slot, v); a != b {
			t.Fatalf("Put %d %d %v: %v, %v", ref, slot, v, a, b)
		}
	}
}

func someRefs(r *rand.Rand, count int) []int64 {
	var l []int64
	for range r.Intn(4) {
		l = append(l, int64(r.Intn(count+3)-1))
	}
	return l
}

// P1303, P1304: at random; Reach of what it tells is the same, as a set; of two rows together it holds just what each tells.
func TestReachAtRandom(t *testing.T) {
	r := rand.New(rand.NewSource(1303))
	w := world(t, family()...)
	more := 0
	for range 3000 {
		h, m := heap.New(w, room), newModel(family(), room)
		web(t, r, h, m)
		a, b := someRefs(r, h.Count()), someRefs(r, h.Count())
		x, y, both := h.Reach(a...), h.Reach(b...), h.Reach(slices.Concat(a, b)...)
		if want := m.Reach(a...); !slices.Equal(x, want) {
			t.Fatalf("from %v: %v, wanted %v\n%s", a, x, want, picture(m))
		}
		if again := h.Reach(x...); !slices.Equal(again, x) {
			t.Fatalf("from %v: %v", x, again)
		}
		slices.Reverse(x)
		if again := h.Reach(x...); !slices.Equal(again, x) {
			t.Fatalf("from %v: %v", x, again)
		}
		if len(x) > len(a) {
			more++
		}
		union := slices.Concat(x, y)
		slices.Sort(union)
		slices.Sort(both)
		if !slices.Equal(slices.Compact(union), both) {
			t.Fatalf("from %v and %v: %v, %v, both %v", a, b, x, y, both)
		}
	}
	if more < 500 {
		t.Errorf("only %d", more)
	}
}
