package arena_test

import (
	"bytes"
	"encoding/hex"
	"math"
	"slices"
	"strings"
	"testing"
)

// spelt are bytes by their text.
func spelt(t testing.TB, s string) []byte {
	t.Helper()
	b, e := hex.DecodeString(strings.ReplaceAll(s, " ", ""))
	if e != nil {
		t.Fatal(e)
	}
	return b
}

// P1503: Bytes is eight bytes a kind, eight how many slots, eight a slot, the highest byte first.
func TestBytes(t *testing.T) {
	a := begin(t, 256)
	want := ""
	for _, c := range []struct {
		kind  int
		slots []int64
		bytes string
	}{
		{1, []int64{2, -1}, "0000000000000001 0000000000000002 0000000000000002 FFFFFFFFFFFFFFFF"},
		{-1, nil, "FFFFFFFFFFFFFFFF 0000000000000000"},
		{0x0102030405060708, []int64{math.MinInt64}, "0102030405060708 0000000000000001 8000000000000000"},
		{math.MinInt, []int64{math.MaxInt64, 0, 256}, "8000000000000000 0000000000000003 7FFFFFFFFFFFFFFF 0000000000000000 0000000000000100"},
		{0, nil, "0000000000000000 0000000000000000"},
		{math.MaxInt, nil, "7FFFFFFFFFFFFFFF 0000000000000000"},
	} {
		made(t, a, c.kind, c.slots...)
		want += c.bytes
		if b := spelt(t, want); !bytes.Equal(a.Bytes(), b) || a.Used() != len(b) {
			t.Errorf("%x, %d; wanted %x", a.Bytes(), a.Used(), b)
		}
	}
}

// P1503: of an object with many slots all bytes are told.
func TestBytesOfManySlots(t *testing.T) {
	a := begin(t, 1<<20)
	at := made(t, a, 5, make([]int64, 65536)...)
	made(t, a, 6)
	puts(t, a, at, 65535, 7)
	b := a.Bytes()
	if len(b) != 16+8*65536+16 || len(b) != a.Used() || !bytes.Equal(b[8:16], spelt(t, "0000000000010000")) {
		t.Fatalf("%d bytes, head %x", len(b), b[:16])
	}
	if got := b[8*65536:]; !bytes.Equal(got, spelt(t, "0000000000000000 0000000000000007 0000000000000006 0000000000000000")) {
		t.Errorf("%x", got)
	}
}

// P1503: Used, All and Bytes behind each Make, in a half that is empty, and till it is full.
func TestUsedAndAll(t *testing.T) {
	a := begin(t, 300)
	for range 3 {
		stands(t, a, 0)
		if len(a.Bytes()) != 0 {
			t.Errorf("%v", a.Bytes())
		}
		var want []int64
		used := 0
		for n := 0; a.Room(n % 4); n++ {
			want = append(want, made(t, a, n, make([]int64, n%4)...))
			used += 16 + 8*(n%4)
			stands(t, a, used, want...)
			if len(a.Bytes()) != used {
				t.Errorf("%d bytes, %d used", len(a.Bytes()), used)
			}
		}
		if used < 250 || !slices.IsSorted(want) {
			t.Errorf("%d, %v", used, want)
		}
		a.Flip()
	}
}

// P1503: Room tells whether Make of so many would find some; false of what is not 0 to 65536.
func TestRoom(t *testing.T) {
	great, small := begin(t, 1<<20), begin(t, 256)
	for _, slots := range oddCounts {
		if great.Room(slots) || small.Room(slots) {
			t.Errorf("%d", slots)
		}
	}
	for _, slots := range []int{0, 1, 30, 31, 1000, 65535, 65536} {
		if !great.Room(slots) || small.Room(slots) != (slots <= 30) {
			t.Errorf("%d: %v, %v", slots, great.Room(slots), small.Room(slots))
		}
	}
	made(t, great, 1, make([]int64, 65530)...)
	left := 1<<20 - great.Used()
	for slots := range 65537 {
		if great.Room(slots) != (16+8*slots <= left) {
			t.Fatalf("%d left: %d: %v", left, slots, great.Room(slots))
		}
	}
	made(t, great, 1, make([]int64, 65526)...)
	made(t, great, 1)
	made(t, great, 1)
	if great.Used() != 1<<20-64 {
		t.Fatal(great.Used())
	}
	for slots, want := range map[int]bool{0: true, 6: true, 7: false, 65536: false, -1: false} {
		if great.Room(slots) != want {
			t.Errorf("%d: %v", slots, !want)
		}
	}
	made(t, great, 1, make([]int64, 6)...)
	if great.Room(0) || great.Room(-1) || great.Room(-2) || great.Room(math.MinInt) {
		t.Error("a half that is full has room")
	}
}

// P1503, P2: Room and the other calls that tell change nothing.
func TestTellingChangesNothing(t *testing.T) {
	a := full(t, 40)
	before := picture(a)
	for _, slots := range append([]int{0, 1, 2, 3, 4, 65536}, oddCounts...) {
		a.Room(slots)
	}
	a.All()
	a.Bytes()
	a.Used()
	if got := picture(a); got != before {
		t.Errorf("%s became %s", before, got)
	}
}
