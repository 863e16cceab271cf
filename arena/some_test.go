package arena_test

import (
	"fmt"
	"math"
	"slices"
	"strings"
	"testing"

	"keystone/api"
	"keystone/arena"
)

// teller is an arena, or what is held against one.
type teller interface {
	Make(kind, slots int) (int64, api.Errno)
	Kind(at int64) (int, api.Errno)
	Slots(at int64) (int, api.Errno)
	Get(at int64, slot int) (int64, api.Errno)
	Put(at int64, slot int, v int64) api.Errno
	Used() int
	Room(slots int) bool
	All() []int64
	Bytes() []byte
	Flip()
	Copy(at int64) (int64, api.Errno)
}

// begin is an arena whose halves have so many bytes.
func begin(t testing.TB, semi int) *arena.Arena {
	t.Helper()
	a, e := arena.New(semi)
	if a == nil || e != api.OK {
		t.Fatalf("New(%d): %v", semi, e)
	}
	return a
}

// made is the address of an object whose slots hold these numbers.
func made(t testing.TB, a teller, kind int, l ...int64) int64 {
	t.Helper()
	at, e := a.Make(kind, len(l))
	if e != api.OK {
		t.Fatalf("Make(%d, %d): %d, %v", kind, len(l), at, e)
	}
	for slot, v := range l {
		puts(t, a, at, slot, v)
	}
	return at
}

// puts puts what may be put, copied copies what may be copied.
func puts(t testing.TB, a teller, at int64, slot int, v int64) {
	t.Helper()
	if e := a.Put(at, slot, v); e != api.OK {
		t.Fatalf("Put(%d, %d, %d): %v", at, slot, v, e)
	}
}

func copied(t testing.TB, a teller, at int64) int64 {
	t.Helper()
	now, e := a.Copy(at)
	if e != api.OK {
		t.Fatalf("Copy(%d): %d, %v", at, now, e)
	}
	return now
}

// slots are the numbers that an object's slots hold.
func slots(a teller, at int64) []int64 {
	n, _ := a.Slots(at)
	l := make([]int64, 0, n)
	for slot := range n {
		v, _ := a.Get(at, slot)
		l = append(l, v)
	}
	return l
}

// holds holds an object against its kind and the numbers in its slots.
func holds(t testing.TB, a teller, at int64, kind int, want ...int64) {
	t.Helper()
	k, e := a.Kind(at)
	if got := slots(a, at); e != api.OK || k != kind || !slices.Equal(got, want) {
		t.Errorf("%d: kind %d, %v, %v; wanted %d, %v", at, k, e, got, kind, want)
	}
	if n, e := a.Slots(at); n != len(want) || e != api.OK {
		t.Errorf("%d: Slots %d, %v; wanted %d", at, n, e, len(want))
	}
}

// stands tells that of all addresses just these are there, and so many bytes.
func stands(t testing.TB, a teller, used int, want ...int64) {
	t.Helper()
	if got := a.All(); a.Used() != used || !slices.Equal(got, want) {
		t.Errorf("All: %v, Used: %d; wanted %v, %d", got, a.Used(), want, used)
	}
}

// noObject tells that every call refuses an address, and tells nothing beside it.
func noObject(t testing.TB, a teller, at int64) {
	t.Helper()
	if k, e := a.Kind(at); k != 0 || e != api.ErrAddr {
		t.Errorf("Kind(%d): %d, %v", at, k, e)
	}
	if n, e := a.Slots(at); n != 0 || e != api.ErrAddr {
		t.Errorf("Slots(%d): %d, %v", at, n, e)
	}
	for _, slot := range []int{0, 1, -1, math.MaxInt, math.MinInt} {
		if v, e := a.Get(at, slot); v != 0 || e != api.ErrAddr {
			t.Errorf("Get(%d, %d): %d, %v", at, slot, v, e)
		}
		if e := a.Put(at, slot, 5); e != api.ErrAddr {
			t.Errorf("Put(%d, %d, 5): %v", at, slot, e)
		}
	}
}

// notCopied tells that Copy refuses so.
func notCopied(t testing.TB, a teller, want api.Errno, l ...int64) {
	t.Helper()
	for _, at := range l {
		if now, e := a.Copy(at); now != 0 || e != want {
			t.Errorf("Copy(%d): %d, %v; wanted %v", at, now, e, want)
		}
	}
}

// picture is all that an arena tells of its used half without being changed.
func picture(a teller) string {
	var b strings.Builder
	fmt.Fprintln(&b, a.Used(), a.All(), a.Bytes())
	for slots := range 80 {
		fmt.Fprint(&b, a.Room(slots), " ")
	}
	for _, at := range a.All() {
		k, e := a.Kind(at)
		n, err := a.Slots(at)
		fmt.Fprintln(&b, at, k, e, n, err, slots(a, at))
	}
	return b.String()
}

// oddAddresses are numbers that are no address, of a half of which so many bytes are used.
func oddAddresses(used int64) []int64 {
	return []int64{
		0, 1, 2, 4, 7, 9, 15, -1, -7, -8, -9, -16, used + 8, used + 7, used + 9, used + 16, used + 24, used + 1<<20,
		1 << 31, 1 << 32, 1<<32 + 8, -1 << 32, -1<<32 + 8, 1<<33 + 8, 1 << 61, 1<<61 + 8, 1<<62 + 8, 1<<63 - 8,
		math.MaxInt32, math.MinInt32, math.MinInt32 + 8, math.MaxInt64, math.MaxInt64 - 7, math.MinInt64, math.MinInt64 + 1, math.MinInt64 + 8, math.MinInt64 + 16,
	}
}

// oddSlots are numbers of slots that are none, of an object with so many.
func oddSlots(count int) []int {
	return []int{
		-1, -2, -3, -8, -count, -count - 1, count, count + 1, count + 2, 65536, 65537, 1 << 31, 1 << 32, 1<<32 + count - 1, -1 << 32, 1 << 60, 1 << 61, 1<<61 + count - 1, -1 << 61, 1 << 62,
		math.MaxInt32, math.MinInt32, math.MaxInt, math.MaxInt - 1, math.MinInt, math.MinInt + 1,
	}
}

// oddCounts are how many slots no object has.
var oddCounts = []int{-1, -2, -8, 65537, 65538, 1 << 17, 1 << 20, 1 << 31, 1 << 32, 1<<32 + 1, -1 << 32, 1 << 60, 1 << 61, 1<<61 + 1, 1<<62 - 2, -1 << 61, math.MaxInt32, math.MinInt32, math.MaxInt, math.MinInt, math.MinInt + 1}

// numbers are the edges of those that a slot, a kind may be.
var numbers = []int64{0, 1, -1, 127, 128, 255, 256, -128, -129, 1 << 31, -1 << 31, 1<<32 - 1, 1 << 32, 1<<56 - 1, 1 << 56, 0x0102030405060708, -0x0102030405060708, math.MaxInt64, math.MaxInt64 - 1, math.MinInt64, math.MinInt64 + 1}
