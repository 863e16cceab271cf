package gc_test

import (
	"math"
	"slices"
	"testing"

	"keystone/api"
	"keystone/arena"
	"keystone/gc"
)

// P1: whatever numbers are handed in, every call ends.
func TestWhateverIsHandedIn(t *testing.T) {
	r := newMaker(1)
	any := []int64{math.MinInt64, math.MinInt64 + 8, -1 << 32, -9, -8, -1, 0, 1, 7, 8, 9, 16, 24, 40, 255, 256, 264, 65536, 1 << 32, 1 << 61, math.MaxInt64 - 7, math.MaxInt64}
	for range 300 {
		a := begin(t, one(r.Rand, 256, 300, 1<<20))
		for range 10 {
			made(t, a, int(one(r.Rand, any...)), one(r.Rand, any...))
		}
		s := make(gc.Table, r.Intn(12))
		for kind := range s {
			for range r.Intn(5) {
				s[kind] = append(s[kind], int(one(r.Rand, any...)), 0)
			}
		}
		var roots []int64
		for range r.Intn(5) {
			roots = append(roots, one(r.Rand, any...))
		}
		gc.Reach(a, s, roots...)
		gc.Live(a, s, roots...)
		gc.Collect(a, s, roots...)
		gc.Collect(a, s, 8, 32, 0)
		for _, kind := range any {
			s.Refs(int(kind), int(one(r.Rand, any...)))
		}
	}
}

// P1: an arena that was not made by New holds nothing.
func TestNoArena(t *testing.T) {
	var a arena.Arena
	reaches(t, &a, every, []int64{0, 8, -8})
	refuses(t, &a, every, 0, 8)
	collects(t, &a, every, []int64{0}, 0, 0)
	collects(t, &a, every, nil, 0)
}

// P2: roots and table are not changed, with their spare room; what is told is new memory, and nothing is kept of it.
func TestListsApart(t *testing.T) {
	a := begin(t, 512)
	x := made(t, a, 0, 0, 0)
	y := made(t, a, 1, x, x)
	roots := []int64{y, 0, x, x, 31, 32}
	s := gc.Table{[]int{1, 0, 1, 5, 6}[:3], []int{0, 9, 0}[:1]}
	given, row := slices.Clone(roots), slices.Clone(s[0][:5])
	list := gc.Reach(a, s, roots[:4]...)
	want := slices.Clone(list)
	scratch(gc.Reach(a, s, roots[:4]...))
	gc.Live(a, s, roots[:4]...)
	before := picture(a)
	scratch(list)
	if got := gc.Reach(a, s, roots[:4]...); !slices.Equal(got, want) || picture(a) != before {
		t.Errorf("Reach: %v, then %v", want, got)
	}
	now, e := gc.Collect(a, s, roots[:4]...)
	before = picture(a)
	told := slices.Clone(now)
	scratch(now)
	if e != api.OK || !slices.Equal(told, []int64{8, 0, 40, 40}) || picture(a) != before {
		t.Errorf("%v, %v", told, e)
	}
	if !slices.Equal(roots, given) || !slices.Equal(s[0][:5], row) || !slices.Equal(s[1][:3], []int{0, 9, 0}) {
		t.Errorf("%v became %v; %v", given, roots, s)
	}
	puts(t, a, 8, 40, 8)
	made(t, a, 5, 8)
	again, e := gc.Collect(a, s, told...)
	if e != api.OK || !slices.Equal(told, []int64{8, 0, 40, 40}) || !slices.Equal(again, told) {
		t.Errorf("%v, %v, %v", told, again, e)
	}
}

// P2: a table that changes behind a call changes nothing in what was told, nor does the next call go by what it was.
func TestNothingIsKept(t *testing.T) {
	a := begin(t, 512)
	x, y := made(t, a, 5), made(t, a, 6)
	p := made(t, a, 0, x, y)
	s := gc.Table{{0}}
	l := gc.Reach(a, s, p)
	s[0][0] = 1
	reaches(t, a, s, []int64{p}, p, y)
	if !slices.Equal(l, []int64{p, x}) {
		t.Errorf("%v", l)
	}
	s[0] = []int{1, 0}
	reaches(t, a, s, []int64{p}, p, y, x)
	roots := []int64{p}
	collects(t, a, s, roots, 32+32, 8)
	roots[0] = 99
	s[0] = nil
	holds(t, a, 8, 0, 56, 40)
	collects(t, a, s, []int64{8}, 32, 8)
	holds(t, a, 8, 0, 56, 40)
}

// P3: the same calls in the same order answer the same, in an arena that is new, and in one where much was done ahead of a collection of nothing.
func TestSameAgain(t *testing.T) {
	for seed := range int64(60) {
		var want []string
		for turn := range 3 {
			a := begin(t, 600)
			if turn == 2 {
				old := newMaker(seed + 1000)
				for range 5 {
					old.fill(t, a)
					gc.Collect(a, old.shape(), old.roots(a.All())...)
				}
				collects(t, a, every, nil, 0)
			}
			got := pictures(t, newMaker(seed), a)
			if want == nil {
				want = got
			}
			if !slices.Equal(got, want) {
				t.Fatalf("%d: %v, wanted %v", turn, got, want)
			}
		}
	}
}

// pictures are those behind each of some collections.
func pictures(t testing.TB, r *maker, a *arena.Arena) []string {
	var l []string
	for range 6 {
		r.fill(t, a)
		gc.Collect(a, r.shape(), r.roots(a.All())...)
		l = append(l, picture(a))
	}
	return l
}

// P4, P5: an error has nothing beside it, and has changed nothing: neither the used half, nor what Copy answers.
func TestErrorsChangeNothing(t *testing.T) {
	r := newMaker(5)
	refused := 0
	for range 300 {
		a, b := begin(t, 600), begin(t, 600)
		seed := r.Int63()
		for _, h := range []*arena.Arena{a, b} {
			same := newMaker(seed)
			same.fill(t, h)
			h.Flip()
			same.fill(t, h)
			h.Copy(8)
		}
		roots := append(r.roots(a.All()), one(r.Rand, oddAddresses(int64(a.Used()))...))
		r.Shuffle(len(roots), func(i, j int) { roots[i], roots[j] = roots[j], roots[i] })
		refuses(t, a, r.shape(), roots...)
		refused++
		for at := int64(0); at < 700; at += 8 {
			x, e := a.Copy(at)
			if y, want := b.Copy(at); x != y || e != want {
				t.Fatalf("Copy(%d): %d, %v; wanted %d, %v", at, x, e, y, want)
			}
		}
		if picture(a) != picture(b) {
			t.Fatal("behind an error other objects lie there")
		}
	}
	if refused < 100 {
		t.Errorf("only %d", refused)
	}
}

// P7: what is done to one arena is not seen in another one, with one table for both.
func TestTwoArenas(t *testing.T) {
	a, s := chapter(t)
	b, _ := chapter(t)
	collects(t, a, s, []int64{56}, 64, 8)
	stands(t, b, 80, 8, 40, 56)
	reaches(t, b, s, []int64{8}, 8, 56)
	collects(t, b, s, []int64{40}, 16, 8)
	stands(t, a, 64, 8, 40)
	holds(t, a, 40, 0, 8, 7)
	collects(t, a, s, []int64{8}, 64, 8)
	stands(t, b, 16, 8)
}

// P7: collections in several arenas in turn answer as the plain writing has it.
func TestArenasInTurn(t *testing.T) {
	r := newMaker(7)
	arenas := []*arena.Arena{begin(t, 256), begin(t, 500), begin(t, 900)}
	shapes := []gc.Shape{r.shape(), r.table(), gc.Table{}}
	for range 300 {
		i := r.Intn(3)
		r.fill(t, arenas[i])
		collected(t, arenas[i], shapes[i], r.roots(arenas[i].All())...)
	}
}
