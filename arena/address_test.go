package arena_test

import (
	"slices"
	"testing"

	"keystone/api"
)

// P1502: of all numbers just the objects' addresses are some: none of the places inside, none ahead, behind.
func TestAddresses(t *testing.T) {
	a := begin(t, 1024)
	made(t, a, 1, 1, 2, 3)
	made(t, a, -1)
	made(t, a, 0)
	made(t, a, 8, 8, 8, 8, 8, 8)
	last := made(t, a, 1<<40, -1)
	all := a.All()
	if last != int64(a.Used()-16) || !slices.Equal(all, []int64{8, 48, 64, 80, last}) {
		t.Fatalf("%v, %d", all, last)
	}
	for at := int64(-100); at < 1200; at++ {
		if !slices.Contains(all, at) {
			noObject(t, a, at)
		} else if _, e := a.Kind(at); e != api.OK {
			t.Errorf("%d: %v", at, e)
		}
	}
	for _, at := range oddAddresses(int64(a.Used())) {
		noObject(t, a, at)
	}
}

// P1502: the end of the half is no address, though it be full.
func TestEndOfTheHalf(t *testing.T) {
	a := full(t, 0)
	for _, at := range []int64{256, 257, 263, 264, 265, 272, 280, 512, 520} {
		noObject(t, a, at)
	}
	holds(t, a, 248, 3)
}

// P1502: what lies in a slot may look like an object's head, or like a whole object; it is none.
func TestSlotsThatLookLikeObjects(t *testing.T) {
	a := begin(t, 1024)
	at := made(t, a, 1, 1, 2, 7, 7, -1, 0, 1, 0)
	other := made(t, a, 2, 0, 0, 0)
	for place := at + 1; place < other; place++ {
		noObject(t, a, place)
	}
	for place := other + 1; place < other+100; place++ {
		noObject(t, a, place)
	}
	stands(t, a, 120, at, other)
	a.Flip()
	for place := int64(-1); place < 200; place++ {
		if place != at && place != other {
			notCopied(t, a, api.ErrAddr, place)
		}
	}
	stands(t, a, 0)
}

// P1502: where an object lay ahead of two Flips there is none, till one is made just there; then another one's inside may be there.
func TestAddressesBehindFlips(t *testing.T) {
	a := begin(t, 256)
	for range 6 {
		made(t, a, 1)
	}
	a.Flip()
	a.Flip()
	for at := int64(0); at < 256; at++ {
		noObject(t, a, at)
	}
	at := made(t, a, 2, 1, 0, 1, 0)
	for place := at + 1; place < 256; place++ {
		noObject(t, a, place)
	}
	stands(t, a, 48, 8)
	if at := made(t, a, 3); at != 56 {
		t.Errorf("%d", at)
	}
	holds(t, a, 8, 2, 1, 0, 1, 0)
	holds(t, a, 56, 3)
}
