package arena_test

import (
	"bytes"
	"math"
	"slices"
	"testing"

	"keystone/api"
	"keystone/arena"
)

// P1: whatever numbers are handed in, in whatever order, every call ends.
func TestWhateverIsHandedIn(t *testing.T) {
	a := newAsker(1)
	any := []int64{math.MinInt64, math.MinInt64 + 8, -1 << 32, -9, -8, -1, 0, 1, 7, 8, 9, 16, 24, 40, 255, 256, 264, 65536, 65537, 1 << 32, 1 << 61, math.MaxInt64 - 7, math.MaxInt64}
	for _, semi := range []int{256, 300, 1 << 20} {
		for range 30 {
			h := begin(t, semi)
			for range 200 {
				k, n, at, v := int(one(a.r, any...)), int(one(a.r, any...)), one(a.r, any...), one(a.r, any...)
				h.Make(k, n)
				h.Make(k, a.r.Intn(4))
				h.Kind(at)
				h.Slots(at)
				h.Get(at, n)
				h.Put(at, n, v)
				h.Copy(at)
				h.Room(n)
				if a.r.Intn(20) == 0 {
					h.Flip()
				}
			}
			h.All()
			h.Bytes()
			h.Used()
		}
	}
}

// P1: an arena that New did not make has no room, but panics nowhere.
func TestNotMadeByNew(t *testing.T) {
	var a arena.Arena
	for range 3 {
		if at, e := a.Make(1, 0); at != 0 || e != api.ErrFull {
			t.Errorf("%d, %v", at, e)
		}
		if a.Room(0) {
			t.Error("room")
		}
		for _, at := range oddAddresses(0) {
			noObject(t, &a, at)
			notCopied(t, &a, api.ErrAddr, at)
		}
		stands(t, &a, 0)
		a.Flip()
	}
}

// P2: the lists that are told may be written over and grown, their spare room too: nothing is another one then, nor does a list change once it was told.
func TestListsApart(t *testing.T) {
	a := begin(t, 1024)
	made(t, a, 1, 11, 12)
	made(t, a, -2)
	made(t, a, 3, 31)
	before := picture(a)
	all, b := a.All(), a.Bytes()
	sameAll, sameBytes := a.All(), a.Bytes()
	had, hadBytes := slices.Clone(all), slices.Clone(b)
	scratch(all)
	scratch(b)
	if got := picture(a); got != before || !slices.Equal(sameAll, had) || !bytes.Equal(sameBytes, hadBytes) {
		t.Errorf("%s became %s", before, got)
	}
	all, b = a.All(), a.Bytes()
	puts(t, a, 8, 1, 99)
	made(t, a, 4, 41)
	a.Flip()
	copied(t, a, 8)
	made(t, a, 5, 51, 52, 53)
	a.Flip()
	made(t, a, 6, 61)
	if !slices.Equal(all, had) || !bytes.Equal(b, hadBytes) {
		t.Errorf("%v, %v; were %v, %v", all, b, had, hadBytes)
	}
}

// scratch writes over a list and its spare room, and grows it.
func scratch[T byte | int64](l []T) {
	full := l[:cap(l)]
	for i := range full {
		full[i] = 77
	}
	l = append(l, 1, 2, 3)
	for i := range l {
		l[i] = 78
	}
}

// P2: lists told between Flips share nothing with either half.
func TestListsOfEachHalf(t *testing.T) {
	a := newAsker(2)
	for range 100 {
		semi := one(a.r, 256, 400)
		h, m := begin(t, semi), newModel(semi)
		a.was = nil
		for range 60 {
			a.ask(t, 3, m, h)
			scratch(h.All())
			scratch(h.Bytes())
		}
	}
}

// P3: the same calls in the same order answer the same, in an arena that is new, and in one where much was done ahead of two Flips.
func TestSameAgain(t *testing.T) {
	a := newAsker(3)
	for range 100 {
		semi := one(a.r, 256, 300, 1000)
		old := begin(t, semi)
		a.was = nil
		a.ask(t, 100, old)
		old.Flip()
		old.Flip()
		a.was = nil
		a.ask(t, 150, begin(t, semi), begin(t, semi), old)
	}
}

// P4, P5: a call that answers an error has nothing beside it, and changed nothing: what lies in the used half, what may be copied, what was.
func TestErrorsChangeNothing(t *testing.T) {
	a := newAsker(4)
	refused := 0
	for range 200 {
		semi := one(a.r, 256, 300, 400)
		h, m := begin(t, semi), newModel(semi)
		a.was = nil
		for range 20 {
			a.ask(t, 10, m, h)
			before := picture(h)
			for range 20 {
				refused += refusals(t, a, h, m)
			}
			if got := picture(h); got != before {
				t.Fatalf("%s became %s", before, got)
			}
		}
	}
	if refused < 10000 {
		t.Errorf("only %d", refused)
	}
}

// refusals asks of an arena what must be refused in the words of the chapter, which the model is not asked to do.
func refusals(t testing.TB, a *asker, h *arena.Arena, m *model) int {
	t.Helper()
	n := 0
	told := func(v int64, e api.Errno) {
		t.Helper()
		if v != 0 || e == api.OK {
			t.Fatalf("%d, %v", v, e)
		}
		n++
	}
	at, slot, count := a.at(m.All()), a.slot(), a.count()
	if x := m.used.at(at); x == nil {
		k, e := h.Kind(at)
		told(int64(k), e)
		k, e = h.Slots(at)
		told(int64(k), e)
	}
	if _, e := m.slot(at, slot); e != api.OK {
		told(h.Get(at, slot))
		told(0, h.Put(at, slot, a.number()))
	}
	if !m.Room(count) {
		told(h.Make(int(a.number()), count))
	}
	old := a.at(a.was)
	if x := m.ahead.at(old); x == nil || m.moved[x] == nil && !m.Room(len(x.slots)) {
		told(h.Copy(old))
	}
	return n
}

// P7: two arenas have nothing in common.
func TestTwoArenas(t *testing.T) {
	x, y := begin(t, 256), begin(t, 512)
	p := made(t, x, 1, 11)
	stands(t, y, 0)
	noObject(t, y, p)
	q := made(t, y, 2, 22, 23)
	if p != q {
		t.Fatal(p, q)
	}
	puts(t, x, p, 0, -1)
	holds(t, y, q, 2, 22, 23)
	x.Flip()
	stands(t, y, 32, 8)
	notCopied(t, y, api.ErrAddr, p)
	holds(t, x, copied(t, x, p), 1, -1)
	y.Flip()
	stands(t, x, 24, 8)
	made(t, x, 3, make([]int64, 26)...)
	if x.Room(0) || !y.Room(62) {
		t.Error("Room")
	}
	holds(t, y, copied(t, y, q), 2, 22, 23)
	holds(t, x, 8, 1, -1)
}

// P7: whatever else is done to one arena, another one answers the words of the chapter.
func TestArenasInTurn(t *testing.T) {
	r := newAsker(7)
	for range 50 {
		askers := make([]*asker, 3)
		arenas, models := make([]*arena.Arena, 3), make([]*model, 3)
		for i := range askers {
			semi := one(r.r, 256, 300, 500)
			askers[i], arenas[i], models[i] = newAsker(r.r.Int63()), begin(t, semi), newModel(semi)
		}
		for range 40 {
			i := r.r.Intn(3)
			askers[i].ask(t, 5, models[i], arenas[i])
		}
		for i, h := range arenas {
			if got, want := picture(h), picture(models[i]); got != want {
				t.Fatalf("%s, wanted %s", got, want)
			}
		}
	}
}
