package heap_test

import (
	"fmt"
	"math"
	"math/rand"
	"strings"
	"testing"

	"keystone/api"
	"keystone/heap"
)

// asker asks the same of several heaps, at random.
type asker struct {
	r     *rand.Rand
	count int            // objects, so that most numbers are such
	done  map[string]int // how often each call answered each error
}

// one is one of some.
func one[T any](r *rand.Rand, l ...T) T { return l[r.Intn(len(l))] }

func (a *asker) class() string {
	return one(a.r, "A", "A", "B", "C", "D", "D", "Empty", "Statics", "Shut", "X", "DivError", "Object", "Open", "I", "None", "")
}

func (a *asker) typ() api.Type {
	t := api.Type{Name: one(a.r, "", "", "A", "B", "I", "J", "K", "Object", "Open", "Throwable", "None", "1")}
	if a.r.Intn(3) == 0 {
		t.Dims = one(a.r, 1, 1, 2, 7, 8, -1)
	}
	return t
}

func (a *asker) ref() int64 {
	if a.r.Intn(12) == 0 {
		return one(a.r, oddNumbers(int64(a.count))...)
	}
	return int64(a.r.Intn(a.count + 1))
}

func (a *asker) slot() int {
	if a.r.Intn(12) == 0 {
		return one(a.r, oddSlots(a.r.Intn(4))...)
	}
	return a.r.Intn(8)
}

func (a *asker) value() api.Value {
	if a.r.Intn(3) == 0 {
		return num(one(a.r, 0, 1, -1, int64(a.r.Intn(a.count+1)), math.MaxInt64, math.MinInt64))
	}
	return obj(a.ref())
}

// question is a call with its arguments, to be made of any heap, and the text of what it answers.
type question func(h teller) string

func (a *asker) next() (string, question) {
	switch a.r.Intn(10) {
	case 0:
		s := a.class()
		return "Make " + s, func(h teller) string { return fmt.Sprint(h.Make(s)) }
	case 1:
		t, n := a.typ(), one(a.r, 0, 1, 2, 3, 5, -1, 65537)
		return fmt.Sprint("Array ", t, n), func(h teller) string { return fmt.Sprint(h.Array(t, n)) }
	case 2:
		ref := a.ref()
		return fmt.Sprint("Type ", ref), func(h teller) string { return fmt.Sprint(h.Type(ref)) }
	case 3:
		ref := a.ref()
		return fmt.Sprint("Len ", ref), func(h teller) string { return fmt.Sprint(h.Len(ref)) }
	case 4:
		ref := a.ref()
		return fmt.Sprint("Size ", ref), func(h teller) string { return fmt.Sprint(h.Size(ref)) }
	case 5:
		ref, slot := a.ref(), a.slot()
		return fmt.Sprint("Get ", ref, slot), func(h teller) string { return fmt.Sprint(h.Get(ref, slot)) }
	case 6:
		l := []int64{a.ref(), a.ref(), a.ref()}[:a.r.Intn(4)]
		return fmt.Sprint("Reach ", l), func(h teller) string { return fmt.Sprint(h.Reach(l...)) }
	}
	ref, slot, v := a.ref(), a.slot(), a.value()
	return fmt.Sprint("Put ", ref, slot, v), func(h teller) string { return fmt.Sprint(h.Put(ref, slot, v)) }
}

// ends is the call and the error that it answered.
func ends(name, answer string) string {
	call, _, _ := strings.Cut(name, " ")
	return call + " " + answer[strings.LastIndex(answer, " ")+1:]
}

// ask asks so many questions; all must answer alike, and tell the same in the end.
func (a *asker) ask(t testing.TB, questions int, first teller, others ...teller) {
	t.Helper()
	for range questions {
		a.count = first.Count()
		name, q := a.next()
		want := q(first)
		a.done[ends(name, want)]++
		for _, h := range others {
			if got := q(h); got != want || h.Bytes() != first.Bytes() || h.Count() != first.Count() {
				t.Fatalf("%s: %s, wanted %s; %d bytes, wanted %d\n%s", name, got, want, h.Bytes(), first.Bytes(), picture(first))
			}
		}
	}
	want := picture(first)
	for _, h := range others {
		if got := picture(h); got != want {
			t.Fatalf("%s\nwanted\n%s", got, want)
		}
	}
}

// P1301 to P1304: rows of calls at random, of heaps with little room and much, beside the words of the chapter.
func TestAtRandom(t *testing.T) {
	a := &asker{r: rand.New(rand.NewSource(13)), done: map[string]int{}}
	w := world(t, family()...)
	for range 600 {
		most := one(a.r, 0, 40, 100, 200, 500, 1000, room)
		a.ask(t, 150, newModel(family(), most), heap.New(w, most))
	}
	for _, s := range []string{"Make ok", "Make member", "Make full", "Array ok", "Array type", "Array arg", "Array full", "Len ok", "Len kind", "Len addr", "Get ok", "Get arg", "Get addr", "Put ok", "Put arg", "Put wrong", "Put addr"} {
		if a.done[s] < 100 {
			t.Errorf("%s: only %d", s, a.done[s])
		}
	}
}

// P1304: nothing is taken back: Bytes is the sum of all Sizes, and never falls, nor does Count.
func TestSumOfSizes(t *testing.T) {
	a := &asker{r: rand.New(rand.NewSource(1304)), done: map[string]int{}}
	w := world(t, family()...)
	for range 200 {
		most := one(a.r, 0, 100, 1000, 5000)
		h := heap.New(w, most)
		bytes, count := 0, 0
		for range 100 {
			a.count = h.Count()
			_, q := a.next()
			q(h)
			if h.Bytes() < bytes || h.Count() < count || h.Bytes() > most || h.Bytes() < 16*h.Count() {
				t.Fatalf("%d bytes, %d objects behind %d, %d", h.Bytes(), h.Count(), bytes, count)
			}
			bytes, count = h.Bytes(), h.Count()
			sum := 0
			for ref := range count {
				n, e := h.Size(int64(ref) + 1)
				if e != api.OK || n != 16+8*len(slots(h, int64(ref)+1)) {
					t.Fatalf("%d: %d, %v", ref+1, n, e)
				}
				sum += n
			}
			if sum != bytes {
				t.Fatalf("%d bytes, the sum is %d", bytes, sum)
			}
		}
	}
}

// P1304: what was put is got, and no other slot of any object is another one.
func TestPutIsSeenInOneSlot(t *testing.T) {
	a := &asker{r: rand.New(rand.NewSource(1305)), done: map[string]int{}}
	w := world(t, family()...)
	put := 0
	for range 150 {
		h := heap.New(w, room)
		a.ask(t, 40, h)
		all := func() map[[2]int64]api.Value {
			l := map[[2]int64]api.Value{}
			for ref := range int64(h.Count()) {
				for i, v := range slots(h, ref+1) {
					l[[2]int64{ref + 1, int64(i)}] = v
				}
			}
			return l
		}
		before := all()
		for range 60 {
			a.count = h.Count()
			ref, slot, v := a.ref(), a.slot(), a.value()
			if h.Put(ref, slot, v) == api.OK {
				before[[2]int64{ref, int64(slot)}] = v
				put++
			}
			if got := all(); fmt.Sprint(got) != fmt.Sprint(before) {
				t.Fatalf("Put %d %d %v: %v, wanted %v", ref, slot, v, got, before)
			}
		}
	}
	if put < 500 {
		t.Errorf("only %d", put)
	}
}
