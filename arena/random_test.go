package arena_test

import (
	"bytes"
	"encoding/binary"
	"fmt"
	"math"
	"math/rand"
	"slices"
	"strings"
	"testing"

	"keystone/api"
)

// asker asks the same of several arenas, at random.
type asker struct {
	r     *rand.Rand
	all   []int64        // the addresses, so that many numbers are such
	was   []int64        // those ahead of the last Flip
	done  map[string]int // how often each call answered each error
	flips int
}

func newAsker(seed int64) *asker {
	return &asker{r: rand.New(rand.NewSource(seed)), done: map[string]int{}}
}

// one is one of some.
func one[T any](r *rand.Rand, l ...T) T { return l[r.Intn(len(l))] }

// at is an address of one of these, now and then one that is none, or of some other place.
func (a *asker) at(l []int64) int64 {
	switch {
	case a.r.Intn(12) == 0:
		return one(a.r, oddAddresses(int64(a.r.Intn(40))*8)...)
	case a.r.Intn(12) == 0:
		return int64(a.r.Intn(300))
	case len(l) == 0 || a.r.Intn(20) == 0:
		return 8 + 8*int64(a.r.Intn(40))
	}
	return one(a.r, l...)
}

func (a *asker) slot() int {
	if a.r.Intn(10) == 0 {
		return one(a.r, oddSlots(a.r.Intn(5))...)
	}
	return a.r.Intn(5)
}

func (a *asker) count() int {
	if a.r.Intn(12) == 0 {
		return one(a.r, oddCounts...)
	}
	return one(a.r, 0, 0, 1, 1, 2, 2, 3, 4, 5, 9, 20, 60, 65536)
}

// number is one that may be an address, a kind, a count, or anything.
func (a *asker) number() int64 {
	switch a.r.Intn(4) {
	case 0:
		return one(a.r, numbers...)
	case 1:
		return a.at(a.all)
	case 2:
		return int64(a.r.Uint64())
	}
	return int64(a.r.Intn(4))
}

// question is a call with its arguments, to be made of any arena, and the text of what it answers.
type question func(h teller) string

func (a *asker) next() (string, question) {
	switch a.r.Intn(16) {
	case 0, 1, 2:
		k, n := int(a.number()), a.count()
		return fmt.Sprint("Make ", k, n), func(h teller) string { return fmt.Sprint(h.Make(k, n)) }
	case 3:
		at := a.at(a.all)
		return fmt.Sprint("Kind ", at), func(h teller) string { return fmt.Sprint(h.Kind(at)) }
	case 4:
		at := a.at(a.all)
		return fmt.Sprint("Slots ", at), func(h teller) string { return fmt.Sprint(h.Slots(at)) }
	case 5, 6:
		at, slot := a.at(a.all), a.slot()
		return fmt.Sprint("Get ", at, slot), func(h teller) string { return fmt.Sprint(h.Get(at, slot)) }
	case 7:
		n := a.count()
		return fmt.Sprint("Room ", n), func(h teller) string { return fmt.Sprint(h.Room(n)) }
	case 8, 9, 10, 11:
		at := a.at(a.was)
		return fmt.Sprint("Copy ", at), func(h teller) string { return fmt.Sprint(h.Copy(at)) }
	case 12:
		if a.r.Intn(4) > 0 {
			break
		}
		a.was = a.all
		a.flips++
		return "Flip", func(h teller) string { h.Flip(); return "" }
	}
	at, slot, v := a.at(a.all), a.slot(), a.number()
	return fmt.Sprint("Put ", at, slot, v), func(h teller) string { return fmt.Sprint(h.Put(at, slot, v)) }
}

// ends is the call and the error that it answered.
func ends(name, answer string) string {
	call, _, _ := strings.Cut(name, " ")
	return call + " " + answer[strings.LastIndex(answer, " ")+1:]
}

// ask asks so many questions; all must answer alike, and tell the same behind each.
func (a *asker) ask(t testing.TB, questions int, first teller, others ...teller) {
	t.Helper()
	for range questions {
		a.all = first.All()
		name, q := a.next()
		want := q(first)
		a.done[ends(name, want)]++
		for _, h := range others {
			if got := q(h); got != want || h.Used() != first.Used() || !bytes.Equal(h.Bytes(), first.Bytes()) || !slices.Equal(h.All(), first.All()) {
				t.Fatalf("%s: %s, wanted %s\n%s\nwanted\n%s", name, got, want, picture(h), picture(first))
			}
		}
	}
	want := picture(first)
	for _, h := range others {
		if got := picture(h); got != want {
			t.Fatalf("%s\nwanted\n%s", got, want)
		}
	}
}

// P1501 to P1504: rows of calls at random, in small halves and greater ones, beside the words of the chapter.
func TestAtRandom(t *testing.T) {
	a := newAsker(15)
	for range 300 {
		semi := one(a.r, 256, 256, 257, 263, 300, 400, 600)
		a.was = nil
		a.ask(t, 200, newModel(semi), begin(t, semi))
	}
	for _, s := range []string{"Make ok", "Make arg", "Make full", "Kind ok", "Kind addr", "Slots ok", "Slots addr", "Get ok", "Get arg", "Get addr", "Put ok", "Put arg", "Put addr", "Copy ok", "Copy addr", "Copy full", "Room true", "Room false"} {
		if a.done[s] < 100 {
			t.Errorf("%s: only %d", s, a.done[s])
		}
	}
	if a.flips < 300 {
		t.Errorf("only %d Flips", a.flips)
	}
}

// spell is what an arena's used half is as bytes, by what All, Kind, Slots and Get tell.
func spell(t testing.TB, a teller) []byte {
	t.Helper()
	var b []byte
	for _, at := range a.All() {
		if at != 8+int64(len(b)) {
			t.Fatalf("%d behind %d bytes", at, len(b))
		}
		k, _ := a.Kind(at)
		n, _ := a.Slots(at)
		b = binary.BigEndian.AppendUint64(b, uint64(k))
		b = binary.BigEndian.AppendUint64(b, uint64(n))
		for slot := range n {
			v, e := a.Get(at, slot)
			if e != api.OK {
				t.Fatalf("Get(%d, %d): %v", at, slot, e)
			}
			b = binary.BigEndian.AppendUint64(b, uint64(v))
		}
	}
	return b
}

// P1505: Used is the end of the last object, and Bytes says what All, Kind, Slots and Get tell.
func TestBytesSayAll(t *testing.T) {
	a := newAsker(1505)
	for range 100 {
		semi := one(a.r, 256, 300, 1000, 1<<20)
		h := begin(t, semi)
		a.was = nil
		for range 150 {
			a.all = h.All()
			name, q := a.next()
			q(h)
			if h.Used() > 20000 { // nothing is asked of great ones here: to spell them each time takes long
				break
			}
			if got, want := h.Bytes(), spell(t, h); !bytes.Equal(got, want) || h.Used() != len(want) || h.Used() > semi {
				t.Fatalf("%s: %v, wanted %v; %d used", name, got, want, h.Used())
			}
		}
	}
}

// P1505: nothing that Put does is seen but in that slot; what cannot be put changes nothing.
func TestPutIsSeenInOneSlot(t *testing.T) {
	a := newAsker(1506)
	put := 0
	for range 200 {
		h := begin(t, 600)
		a.was = nil
		a.ask(t, 60, h)
		want := h.Bytes()
		a.all = h.All()
		for range 60 {
			at, slot, v := a.at(a.all), a.slot(), a.number()
			if h.Put(at, slot, v) == api.OK {
				binary.BigEndian.PutUint64(want[at-8+16+8*int64(slot):], uint64(v))
				put++
			}
			if got := h.Bytes(); !bytes.Equal(got, want) || !slices.Equal(h.All(), a.all) {
				t.Fatalf("Put(%d, %d, %d): %v, wanted %v", at, slot, v, got, want)
			}
		}
	}
	if put < 2000 {
		t.Errorf("only %d", put)
	}
}

// P1505: what lies in the half ahead finds room, if nothing else is laid down: Copy never answers ErrFull.
func TestCopiesAloneFindRoom(t *testing.T) {
	a := newAsker(1507)
	for range 100 {
		h := begin(t, one(a.r, 256, 263, 400))
		for range 8 {
			for range 20 {
				h.Make(int(a.number()), one(a.r, 0, 1, 2, 3, 8))
			}
			before := h.All()
			h.Flip()
			for range 40 {
				at := a.at(before)
				now, e := h.Copy(at)
				if e == api.ErrFull || e == api.OK != slices.Contains(before, at) || e == api.OK != (now > 0) {
					t.Fatalf("Copy(%d): %d, %v of %v", at, now, e, before)
				}
			}
		}
	}
}

// P1: numbers of any kind: every call ends, and what was made is told.
func FuzzCalls(f *testing.F) {
	f.Add([]byte{0, 1, 2, 3, 4, 5, 6, 7, 8, 9, 10, 11, 12, 13, 14, 15})
	f.Fuzz(func(t *testing.T, b []byte) {
		h, m := begin(t, 256), newModel(256)
		for len(b) >= 4 {
			at, n, v := int64(b[1]), int(b[2]), int64(int8(b[3]))
			if b[0]&128 != 0 {
				at, n, v = at*8, n%8, v<<56|v
			}
			if b[0]&64 != 0 {
				at, n = at+math.MinInt64, -n
			}
			for _, q := range []question{
				func(h teller) string { return fmt.Sprint(h.Make(int(v), n)) },
				func(h teller) string { return fmt.Sprint(h.Put(at, n, v)) },
				func(h teller) string { return fmt.Sprint(h.Get(at, n)) },
				func(h teller) string { h.Flip(); return "" },
				func(h teller) string { return fmt.Sprint(h.Copy(at)) },
			}[b[0]%5 : b[0]%5+1] {
				if got, want := q(h), q(m); got != want {
					t.Fatalf("%v: %s, wanted %s", b[:4], got, want)
				}
			}
			b = b[4:]
		}
		if got, want := picture(h), picture(m); got != want {
			t.Fatalf("%s, wanted %s", got, want)
		}
	})
}
