package maps_test

import (
	"math"
	"math/rand"
	"testing"

	"keystone/api"
	"keystone/maps"
)

// P1202: the first map of a place.
func TestAt(t *testing.T) {
	l := mapsOf("3 10/1\n0 /\n3 0/\n7 /11\n65535 1/\n7 /\n70000 0/0")
	l = append(l, api.Map{At: -1, Locals: bitsOf("01")}, api.Map{At: math.MinInt, Stack: bitsOf("1")}, api.Map{At: math.MaxInt}, api.Map{At: -1})
	for at, want := range map[int]string{3: "3 10/1", 0: "0 /", 7: "7 /11", 65535: "65535 1/", 70000: "70000 0/0", -1: "-1 01/", math.MinInt: "-9223372036854775808 /1", math.MaxInt: "9223372036854775807 /"} {
		if m, e := maps.At(l, at); e != api.OK || text(m) != want {
			t.Errorf("%d: %s, %v; wanted %s", at, text(m), e, want)
		}
	}
}

// P1202: ErrNone, and nothing beside it, of a place that no map has, and of no maps at all.
func TestAtNowhere(t *testing.T) {
	l := mapsOf("3 10/1\n0 /\n5 0/")
	for _, at := range []int{-3, -1, 1, 2, 4, 6, 65539, 1<<32 + 3, math.MaxInt, math.MinInt} {
		if m, e := maps.At(l, at); e != api.ErrNone || text(m) != "0 /" {
			t.Errorf("%d: %s, %v", at, text(m), e)
		}
	}
	for _, at := range []int{0, 3, -1} {
		for _, none := range [][]api.Map{nil, {}, l[:0]} {
			if m, e := maps.At(none, at); e != api.ErrNone || text(m) != "0 /" {
				t.Errorf("%d of no maps: %s, %v", at, text(m), e)
			}
		}
	}
}

// P1202: in rows at random, with few places.
func TestAtAtRandom(t *testing.T) {
	r := rand.New(rand.NewSource(1202))
	for range 5000 {
		l := someMaps(r, r.Intn(6))
		for i := range l {
			l[i].At = r.Intn(4)
		}
		for at := range 5 {
			want, err := "0 /", api.ErrNone
			for i := len(l) - 1; i >= 0; i-- {
				if l[i].At == at {
					want, err = text(l[i]), api.OK
				}
			}
			if m, e := maps.At(l, at); text(m) != want || e != err {
				t.Fatalf("%d of\n%s%s, %v; wanted %s, %v", at, texts(l), text(m), e, want, err)
			}
		}
	}
}
