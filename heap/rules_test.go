package heap_test

import (
	"math"
	"math/rand"
	"slices"
	"strings"
	"testing"

	"keystone/api"
	"keystone/heap"
	"keystone/hier"
)

// junk makes any calls at all of a heap.
func junk(r *rand.Rand, h *heap.Heap) {
	names := []string{"A", "B", "D", "Empty", "I", "Open", "Object", "None", "Lost", "", "\xff a", strings.Repeat("x", 100)}
	numbers := []int{math.MinInt, -1, 0, 1, 2, 3, 4, 7, 8, 9, 63, 65536, 65537, 1 << 40, math.MaxInt}
	for range 60 {
		t := api.Type{Dims: one(r, numbers...), Name: one(r, names...)}
		if r.Intn(2) == 0 {
			t.Dims = r.Intn(3)
		}
		h.Make(one(r, names...))
		h.Array(t, one(r, numbers...)%1000)
		refs := []int64{int64(one(r, numbers...)), int64(r.Intn(20)), int64(r.Intn(20)), math.MinInt64}
		for _, ref := range refs {
			h.Type(ref)
			h.Len(ref)
			h.Size(ref)
			h.Get(ref, one(r, numbers...))
			h.Put(ref, one(r, numbers...), api.Value{Ref: r.Intn(2) == 0, N: one(r, refs...)})
		}
		h.Reach(refs...)
		h.Reach()
		h.Bytes()
		h.Count()
	}
}

// P1, P8: whatever is handed in, of worlds that are linked and of such as are not, every call ends, and the world tells what it told before.
func TestWhateverIsHandedIn(t *testing.T) {
	r := rand.New(rand.NewSource(1))
	stray := []api.Class{class("A Lost I", "n I", "o LGone;"), class("B A"), class("D B"), class("Open D"), class("face I Object I")}
	ring := []api.Class{class("A B", "o LA;"), class("B D", "o LB;"), class("D A"), class("Empty Empty")}
	for range 20 {
		for _, w := range []*hier.World{world(t, family()...), loose(t, family()...), hier.New(), loose(t, stray...), loose(t, ring...)} {
			before, linked := w.Names(), w.Linked()
			for _, most := range []int{math.MinInt, -1, 0, 16, 100, 1 << 16} {
				junk(r, heap.New(w, most))
			}
			if !slices.Equal(before, w.Names()) || linked != w.Linked() {
				t.Error("the world is another one")
			}
		}
	}
}

// P1, P8: a world that is linked only behind New: every call ends.
func TestLinkedLater(t *testing.T) {
	r := rand.New(rand.NewSource(2))
	w := loose(t, family()...)
	h := heap.New(w, 1<<16)
	junk(r, h)
	if s, e := w.Link(); e != api.OK {
		t.Fatal(s, e)
	}
	junk(r, h)
	picture(h)
}

// P2: the roots that are handed in are as they were, their spare room too, and are not kept; what is told may be written over and grown.
func TestListsApart(t *testing.T) {
	h := begin(t)
	a, b, c := made(t, h, "A"), made(t, h, "A"), made(t, h, "A")
	puts(t, h, a, 1, obj(b))
	puts(t, h, b, 1, obj(c))
	before := picture(h)
	const mark = 77
	memory := []int64{mark, a, 0, 9, a, mark, mark, mark, mark, mark}
	had := slices.Clone(memory)
	roots := memory[1:5]
	told, again := h.Reach(roots...), h.Reach(roots...)
	if !slices.Equal(memory, had) {
		t.Errorf("%v became %v", had, memory)
	}
	if !slices.Equal(told, refs(a, b, c)) {
		t.Fatalf("%v", told)
	}
	for i := range memory {
		memory[i] = c
	}
	if !slices.Equal(told, refs(a, b, c)) {
		t.Errorf("once the roots were written over: %v", told)
	}
	full := told[:cap(told)]
	for i := range full {
		full[i] = -5
	}
	told = append(told, 1, 2, 3, 4, 5, 6, 7, 8, 9)
	if !slices.Equal(again, refs(a, b, c)) || picture(h) != before || len(told) != 12 {
		t.Errorf("%v\n%s\nwanted\n%s", again, picture(h), before)
	}
	reaches(t, h, refs(a), a, b, c)
}

// P2: roots that are just what is told are copied, too.
func TestRootsAreCopied(t *testing.T) {
	h := begin(t)
	a, b := made(t, h, "A"), made(t, h, "A")
	roots := refs(a, b)
	told := h.Reach(roots...)
	roots[0] = b
	told[1] = a
	if !slices.Equal(told, refs(a, a)) || !slices.Equal(roots, refs(b, b)) {
		t.Errorf("%v, %v", told, roots)
	}
}

// P2: no list and an empty one are the same.
func TestNoRoots(t *testing.T) {
	h := begin(t)
	made(t, h, "A")
	for _, l := range [][]int64{nil, {}, make([]int64, 0, 5), make([]int64, 5)} {
		if got := h.Reach(l...); len(got) > 0 {
			t.Errorf("%v: %v", l, got)
		}
	}
}

// P3: the same calls in the same order answer the same, of the same world, and of one whose classes came in another order; whatever was asked between.
func TestSameAgain(t *testing.T) {
	a := &asker{r: rand.New(rand.NewSource(3)), done: map[string]int{}}
	w := world(t, family()...)
	l := family()
	slices.Reverse(l)
	other := world(t, l...)
	for range 100 {
		most := one(a.r, 0, 100, 1000, room)
		a.ask(t, 100, heap.New(w, most), heap.New(w, most), heap.New(other, most))
	}
}

// P4, P5: a call that answers an error has nothing beside it, and changed nothing, at random.
func TestErrorsChangeNothing(t *testing.T) {
	a := &asker{r: rand.New(rand.NewSource(4)), done: map[string]int{}}
	w := world(t, family()...)
	refused := 0
	for range 100 {
		h := heap.New(w, one(a.r, 0, 100, 400, 1000))
		for range 100 {
			a.count = h.Count()
			before := picture(h)
			ref, slot, v := a.ref(), a.slot(), a.value()
			n, e := h.Make(a.class())
			m, err := h.Array(a.typ(), one(a.r, 0, 1, 3, -1, 65537))
			if e != api.OK && n != 0 || err != api.OK && m != 0 {
				t.Fatalf("%d, %v; %d, %v", n, e, m, err)
			}
			if e == api.OK || err == api.OK || h.Put(ref, slot, v) == api.OK {
				continue
			}
			refused++
			if got := picture(h); got != before {
				t.Fatalf("%s became %s", before, got)
			}
		}
	}
	if refused < 1000 {
		t.Errorf("only %d", refused)
	}
}

// P7: two heaps of one world have nothing in common.
func TestTwoHeaps(t *testing.T) {
	w := world(t, family()...)
	x, y := heap.New(w, 100), heap.New(w, 1000)
	a := made(t, x, "A")
	if y.Count() != 0 || y.Bytes() != 0 {
		t.Errorf("%s", picture(y))
	}
	if _, e := y.Get(a, 0); e != api.ErrAddr {
		t.Error(e)
	}
	row(t, y, "I", 2)
	b := made(t, y, "A")
	if b != 2 {
		t.Errorf("%d", b)
	}
	puts(t, y, b, 0, num(5))
	puts(t, y, b, 1, obj(b))
	holds(t, x, a, num(0), obj(0), obj(0), obj(0))
	if e := x.Put(a, 1, obj(b)); e != api.ErrAddr {
		t.Error(e)
	}
	puts(t, x, a, 0, num(7))
	puts(t, x, a, 1, obj(a))
	holds(t, y, b, num(5), obj(b), obj(0), obj(0))
	if n, e := x.Make("B"); n != 0 || e != api.ErrFull {
		t.Errorf("%d, %v", n, e)
	}
	if n := made(t, y, "B"); n != 3 {
		t.Errorf("%d", n)
	}
	reaches(t, x, refs(1, 2, 3), 1)
	reaches(t, y, refs(3, 2, 1), 3, 2, 1)
}

// P7: whatever else is done to one heap, another one answers the words of the chapter.
func TestHeapsInTurn(t *testing.T) {
	r := rand.New(rand.NewSource(5))
	w := world(t, family()...)
	for range 50 {
		askers := make([]*asker, 3)
		heaps, models := make([]teller, 3), make([]teller, 3)
		for i := range askers {
			askers[i] = &asker{r: r, done: map[string]int{}}
			most := one(r, 100, 1000, room)
			heaps[i], models[i] = heap.New(w, most), newModel(family(), most)
		}
		for range 40 {
			i := r.Intn(3)
			askers[i].ask(t, 5, models[i], heaps[i])
		}
		for i, h := range heaps {
			if got, want := picture(h), picture(models[i]); got != want {
				t.Fatalf("%s, wanted %s", got, want)
			}
		}
	}
}

// P7: what is done to the world later changes nothing; nor does what was handed in to make it, or what it told.
func TestWorldLater(t *testing.T) {
	l := family()
	w := world(t, l...)
	h := heap.New(w, room)
	a := made(t, h, "A")
	for i := range l {
		l[i].Name, l[i].Flags = "Z", api.FAbstract
		for j := range l[i].Fields {
			l[i].Fields[j] = api.Field{Name: "z", Type: typ("[I")}
		}
	}
	if e := w.Add(api.Module{Classes: []api.Class{class("New Object", "n I")}}); e != api.ErrLinked {
		t.Fatal(e)
	}
	if _, e := w.Link(); e != api.ErrLinked {
		t.Fatal(e)
	}
	for _, s := range []string{"A", "D"} {
		told := w.Layout(s)
		for i := range told {
			told[i] = hier.Slot{}
		}
		c, _, _ := w.Class(s)
		clear(c.Fields)
	}
	if n, e := h.Make("New"); n != 0 || e != api.ErrMember {
		t.Errorf("%d, %v", n, e)
	}
	for _, ref := range refs(a, made(t, h, "A")) {
		holds(t, h, ref, num(0), obj(0), obj(0), obj(0))
		puts(t, h, ref, 1, obj(a))
	}
	holds(t, h, made(t, h, "D"), num(0), obj(0), obj(0), obj(0), obj(0), obj(0), obj(0), obj(0), obj(0), obj(0))
}
