package arena_test

import (
	"bytes"
	"encoding/binary"
	"testing"

	"keystone/api"
)

// P1502: what was put is got, from each slot; any number may stand there.
func TestPutAndGet(t *testing.T) {
	a := begin(t, 1024)
	made(t, a, 1, 9)
	at, e := a.Make(-4, len(numbers))
	if e != api.OK {
		t.Fatal(e)
	}
	made(t, a, 2, 9)
	holds(t, a, at, -4, make([]int64, len(numbers))...)
	for round := range numbers {
		for slot := range numbers {
			v := numbers[(slot+round)%len(numbers)]
			puts(t, a, at, slot, v)
			if got, e := a.Get(at, slot); got != v || e != api.OK {
				t.Errorf("%d: %d, %v; wanted %d", slot, got, e, v)
			}
		}
		want := append(append([]int64(nil), numbers[round:]...), numbers[:round]...)
		holds(t, a, at, -4, want...)
	}
	holds(t, a, 8, 1, 9)
	holds(t, a, at+16+8*int64(len(numbers)), 2, 9)
}

// P1502: ErrArg, where the object has no such slot, though the bytes be another one's.
func TestNoSuchSlot(t *testing.T) {
	a := begin(t, 1024)
	l := []int64{made(t, a, 0), made(t, a, 1, 5), made(t, a, 2, 5, 6, 7), made(t, a, 3)}
	before := picture(a)
	for _, at := range l {
		n, _ := a.Slots(at)
		for _, slot := range oddSlots(n) {
			if slot >= 0 && slot < n {
				continue
			}
			if v, e := a.Get(at, slot); v != 0 || e != api.ErrArg {
				t.Errorf("Get(%d, %d): %d, %v", at, slot, v, e)
			}
			if e := a.Put(at, slot, -1); e != api.ErrArg {
				t.Errorf("Put(%d, %d): %v", at, slot, e)
			}
		}
	}
	if got := picture(a); got != before {
		t.Errorf("%s became %s", before, got)
	}
}

// P1502, P6: ErrAddr comes ahead of ErrArg.
func TestSlotErrorsInOrder(t *testing.T) {
	a := begin(t, 256)
	made(t, a, 1, 2)
	for _, at := range oddAddresses(24) {
		for _, slot := range oddSlots(1) {
			if v, e := a.Get(at, slot); v != 0 || e != api.ErrAddr {
				t.Errorf("Get(%d, %d): %d, %v", at, slot, v, e)
			}
			if e := a.Put(at, slot, 1); e != api.ErrAddr {
				t.Errorf("Put(%d, %d): %v", at, slot, e)
			}
		}
	}
}

// P1502, P1505: no byte but those of the slot is another one.
func TestPutChangesEightBytes(t *testing.T) {
	a := begin(t, 256)
	l := []int64{made(t, a, 0), made(t, a, -1, 5, 6), made(t, a, 2, 7, 8, 9), made(t, a, 1<<62)}
	want := a.Bytes()
	for _, v := range numbers {
		for _, at := range l {
			n, _ := a.Slots(at)
			for slot := range n {
				puts(t, a, at, slot, v)
				binary.BigEndian.PutUint64(want[int(at)-8+16+8*slot:], uint64(v))
				if got := a.Bytes(); !bytes.Equal(got, want) {
					t.Fatalf("Put(%d, %d, %d): %v, wanted %v", at, slot, v, got, want)
				}
			}
		}
	}
}

// P1501, P1502: what is made anew holds 0 in each slot, though another object lay there ahead of a Flip.
func TestMadeAnewHoldsNought(t *testing.T) {
	a := begin(t, 512)
	for range 4 {
		for a.Room(4) {
			made(t, a, -1, -1, -2, -3, -4)
		}
		a.Flip()
		a.Flip()
		at, e := a.Make(3, 62)
		if e != api.OK {
			t.Fatal(e)
		}
		holds(t, a, at, 3, make([]int64, 62)...)
		a.Flip()
	}
}

// P1501, P1504: nor does one that is made beside copies hold anything else.
func TestMadeBesideCopiesHoldsNought(t *testing.T) {
	a := begin(t, 256)
	for range 5 {
		x := made(t, a, -1, -1, -1)
		made(t, a, -2, -2, -2, -2, -2, -2, -2)
		a.Flip()
		now := copied(t, a, x)
		at, e := a.Make(3, 20)
		if e != api.OK {
			t.Fatal(e)
		}
		holds(t, a, now, -1, -1, -1)
		holds(t, a, at, 3, make([]int64, 20)...)
		a.Flip()
	}
}
