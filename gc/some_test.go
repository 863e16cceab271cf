package gc_test

import (
	"bytes"
	"fmt"
	"math"
	"slices"
	"testing"

	"keystone/api"
	"keystone/arena"
	"keystone/gc"
)

// each is a shape by a function.
type each func(kind, slots int) []int

func (f each) Refs(kind, slots int) []int { return f(kind, slots) }

// every tells all slots, none tells none, whatever the kind.
var (
	every = each(func(_, slots int) []int { return count(slots) })
	none  = each(func(_, _ int) []int { return nil })
)

// count is 0, 1 and so on.
func count(n int) []int {
	var l []int
	for i := range n {
		l = append(l, i)
	}
	return l
}

// begin is an arena whose halves have so many bytes.
func begin(t testing.TB, semi int) *arena.Arena {
	t.Helper()
	a, e := arena.New(semi)
	if a == nil || e != api.OK {
		t.Fatalf("New(%d): %v", semi, e)
	}
	return a
}

// made is the address of an object whose slots hold these numbers.
func made(t testing.TB, a *arena.Arena, kind int, l ...int64) int64 {
	t.Helper()
	at, e := a.Make(kind, len(l))
	if e != api.OK {
		t.Fatalf("Make(%d, %d): %d, %v", kind, len(l), at, e)
	}
	puts(t, a, at, l...)
	return at
}

// puts puts numbers into an object's slots, from 0 on.
func puts(t testing.TB, a *arena.Arena, at int64, l ...int64) {
	t.Helper()
	for slot, v := range l {
		if e := a.Put(at, slot, v); e != api.OK {
			t.Fatalf("Put(%d, %d, %d): %v", at, slot, v, e)
		}
	}
}

// slots are the numbers that an object's slots hold.
func slots(a *arena.Arena, at int64) []int64 {
	n, _ := a.Slots(at)
	l := make([]int64, 0, n)
	for slot := range n {
		v, _ := a.Get(at, slot)
		l = append(l, v)
	}
	return l
}

// holds holds an object against its kind and the numbers in its slots.
func holds(t testing.TB, a *arena.Arena, at int64, kind int, want ...int64) {
	t.Helper()
	k, e := a.Kind(at)
	if got := slots(a, at); e != api.OK || k != kind || !slices.Equal(got, want) {
		t.Errorf("%d: kind %d, %v, %v; wanted %d, %v", at, k, e, got, kind, want)
	}
}

// stands tells that of all addresses just these are there, and so many bytes.
func stands(t testing.TB, a *arena.Arena, used int, want ...int64) {
	t.Helper()
	if got := a.All(); a.Used() != used || !slices.Equal(got, want) {
		t.Errorf("All: %v, Used: %d; wanted %v, %d", got, a.Used(), want, used)
	}
}

// picture is all that an arena tells of its used half.
func picture(a *arena.Arena) string { return fmt.Sprint(a.Used(), a.All(), a.Bytes()) }

// reaches holds Reach and Live against a list, and tells that nothing is another byte behind them.
func reaches(t testing.TB, a *arena.Arena, s gc.Shape, roots []int64, want ...int64) {
	t.Helper()
	before, given := picture(a), slices.Clone(roots)
	if got := gc.Reach(a, s, roots...); !slices.Equal(got, want) {
		t.Errorf("Reach of %v: %v; wanted %v", roots, got, want)
	}
	bytes := 0
	for _, at := range want {
		n, _ := a.Slots(at)
		bytes += 16 + 8*n
	}
	if got := gc.Live(a, s, roots...); got != bytes {
		t.Errorf("Live of %v: %d; wanted %d", roots, got, bytes)
	}
	if got := picture(a); got != before || !slices.Equal(roots, given) {
		t.Errorf("Reach of %v: %s became %s", roots, before, got)
	}
}

// collects tells that roots lie at these addresses behind Collect, and how many bytes are left.
func collects(t testing.TB, a *arena.Arena, s gc.Shape, roots []int64, used int, want ...int64) {
	t.Helper()
	given := slices.Clone(roots)
	got, e := gc.Collect(a, s, roots...)
	if e != api.OK || !slices.Equal(got, want) || a.Used() != used {
		t.Errorf("Collect from %v: %v, %v, %d bytes; wanted %v, %d bytes", given, got, e, a.Used(), want, used)
	}
	if !slices.Equal(roots, given) {
		t.Errorf("Collect changed the roots %v to %v", given, roots)
	}
}

// refuses tells that Collect answers ErrAddr, nothing beside it, and has changed nothing.
func refuses(t testing.TB, a *arena.Arena, s gc.Shape, roots ...int64) {
	t.Helper()
	before, given := a.Bytes(), slices.Clone(roots)
	if got, e := gc.Collect(a, s, roots...); len(got) != 0 || e != api.ErrAddr {
		t.Errorf("Collect from %v: %v, %v", given, got, e)
	}
	if !bytes.Equal(a.Bytes(), before) || !slices.Equal(roots, given) {
		t.Errorf("Collect from %v changed %v to %v", given, before, a.Bytes())
	}
}

// oddAddresses are numbers that are neither 0 nor an address, of a half of which so many bytes are used.
func oddAddresses(used int64) []int64 {
	return []int64{
		1, 2, 4, 7, 9, 15, -1, -7, -8, -9, -16, used + 8, used + 7, used + 9, used + 16, used + 24, used + 1<<20,
		1 << 31, 1 << 32, 1<<32 + 8, -1 << 32, -1<<32 + 8, 1<<33 + 8, 1 << 61, 1<<61 + 8, 1<<62 + 8, 1<<63 - 8,
		math.MaxInt32, math.MinInt32, math.MinInt32 + 8, math.MaxInt64, math.MaxInt64 - 7, math.MinInt64, math.MinInt64 + 1, math.MinInt64 + 8, math.MinInt64 + 16,
	}
}

// oddSlots are numbers that are none of an object's slots, of which there are so many.
func oddSlots(count int) []int {
	return []int{
		-1, -2, -8, -count - 1, count, count + 1, count + 2, 65536, 1 << 31, 1 << 32, 1<<32 + count - 1, -1 << 32, 1 << 60, 1 << 61, 1<<61 + count - 1, -1 << 61, 1 << 62,
		math.MaxInt32, math.MinInt32, math.MaxInt, math.MaxInt - 1, math.MinInt, math.MinInt + 1,
	}
}

// one is one of some.
func one[T any](r interface{ Intn(int) int }, l ...T) T { return l[r.Intn(len(l))] }
