package gc_test

import (
	"math"
	"slices"
	"testing"

	"keystone/gc"
)

// tells holds what a table tells against a list.
func tells(t testing.TB, s gc.Table, kind, slots int, want ...int) {
	t.Helper()
	if got := s.Refs(kind, slots); !slices.Equal(got, want) {
		t.Errorf("%v.Refs(%d, %d): %v; wanted %v", s, kind, slots, got, want)
	}
}

// counts are numbers of slots, some of which no object has.
var counts = []int{0, 1, 2, 3, 1000, 65536, 65537, 1 << 40, -1, -2, math.MaxInt, math.MinInt}

// P1603: of a kind of the table, its list as it stands, however many slots there are: in its order, with what is told twice, or is none.
func TestTableOfKinds(t *testing.T) {
	s := gc.Table{{0}, {}, {5, -1, 5, 0, math.MaxInt, math.MinInt, 2}, nil, {3, 1}}
	for _, slots := range counts {
		for kind, want := range s {
			tells(t, s, kind, slots, want...)
		}
		tells(t, s[:1], 0, slots, 0)
	}
}

// P1603: of a kind beyond the table, none.
func TestTableBeyond(t *testing.T) {
	s := gc.Table{{0}, {1, 0}, {2}}
	for _, slots := range counts {
		for _, kind := range []int{3, 4, 5, 100, 1 << 32, 1<<32 + 1, math.MaxInt32, math.MaxInt - 1, math.MaxInt} {
			tells(t, s, kind, slots)
			tells(t, s[:2:2], 2, slots)
		}
	}
}

// P1603: below 0, all slots of an even kind, from 0 on; none of an odd one.
func TestTableBelowNought(t *testing.T) {
	for _, s := range []gc.Table{nil, {}, {{0}}, {{1}, {2, 0}, {}}} {
		for _, kind := range []int{-2, -4, -6, -100, math.MinInt32, -1 << 32, math.MinInt, math.MinInt + 2} {
			for _, slots := range []int{0, 1, 2, 3, 9, 1000} {
				tells(t, s, kind, slots, count(slots)...)
			}
			tells(t, s, -2, 65537, count(65537)...)
			for _, slots := range []int{-1, -2, -65536, math.MinInt, math.MinInt + 1} {
				tells(t, s, kind, slots)
			}
		}
		for _, kind := range []int{-1, -3, -5, -101, math.MinInt32 + 1, -1<<32 - 1, math.MinInt + 1, math.MinInt + 3} {
			for _, slots := range counts {
				tells(t, s, kind, slots)
			}
		}
	}
}

// P1603: an empty table, and nil, tell of no kind from 0 on.
func TestTableEmpty(t *testing.T) {
	for _, s := range []gc.Table{nil, {}} {
		for _, slots := range counts {
			for _, kind := range []int{0, 1, 2, 3, math.MaxInt, math.MaxInt - 1} {
				tells(t, s, kind, slots)
			}
		}
	}
}

// P1: so many slots that an answer could not hold them: the call ends.
func TestTableOfTooManySlots(t *testing.T) {
	for _, slots := range []int{1 << 40, 1 << 60, 1 << 61, 1 << 62, math.MaxInt - 1, math.MaxInt} {
		gc.Table{}.Refs(-2, slots)
	}
}

// P2: what is told is new memory: neither the table nor what is told again changes with it.
func TestTableTellsNewMemory(t *testing.T) {
	row := make([]int, 3, 8)
	copy(row, []int{4, 2, 4})
	s := gc.Table{row, {}, row[:0], nil}
	for kind := -6; kind < 5; kind++ {
		first := s.Refs(kind, 3)
		want := slices.Clone(first)
		scratch(s.Refs(kind, 3))
		if !slices.Equal(first, want) {
			t.Errorf("%d: %v became %v", kind, want, first)
		}
		tells(t, s, kind, 3, want...)
	}
	if !slices.Equal(row[:8], []int{4, 2, 4, 0, 0, 0, 0, 0}) || len(s) != 4 || s[3] != nil || len(s[2]) != 0 {
		t.Errorf("%v", s)
	}
}

// scratch writes over a list and its spare room, and grows it.
func scratch[T int | int64](l []T) {
	full := l[:cap(l)]
	for i := range full {
		full[i] = 77
	}
	l = append(l, 1, 2, 3)
	for i := range l {
		l[i] = 78
	}
}

// P1603: Collect and Reach go by what a table tells of an object's kind.
func TestTableAsShape(t *testing.T) {
	a := begin(t, 512)
	x := made(t, a, 9, 1)
	y := made(t, a, 9, 2)
	s := gc.Table{{1}, {}, {1, 0}}
	for _, c := range []struct {
		kind int
		want []int64
	}{{0, []int64{y}}, {1, nil}, {2, []int64{y, x}}, {3, nil}, {math.MaxInt, nil}, {-1, nil}, {-2, []int64{x, y}}, {-3, nil}, {-4, []int64{x, y}}, {math.MinInt, []int64{x, y}}, {math.MinInt + 1, nil}} {
		p := made(t, a, c.kind, x, y)
		reaches(t, a, s, []int64{p}, append([]int64{p}, c.want...)...)
	}
}
