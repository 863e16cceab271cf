package maps_test

import (
	"math/rand"
	"testing"

	"keystone/api"
	"keystone/frames"
	"keystone/hier"
	"keystone/maps"
	"keystone/typing"
	"keystone/verify"
)

// P1204: Parse of Bits is the maps, of long rows, too; Bits of what Parse reads are the bytes. (Short rows, and bytes that are no maps': the tests of Bits and Parse.)
func TestThereAndBack(t *testing.T) {
	r := rand.New(rand.NewSource(1204))
	for _, n := range []int{0, 1, 2, 10, 1000, 30000} {
		l := someMaps(r, n)
		both(t, l...)
		if e := parses(t, maps.Bits(l)); e != api.OK {
			t.Errorf("%d maps: %v", n, e)
		}
	}
}

// P1204: a method's maps are told by their bytes: At finds the same map in both rows.
func TestMethodsThereAndBack(t *testing.T) {
	x := newMaker(t, 12)
	done := 0
	x.each(t, 100, 14, func(w *hier.World, n int, code []byte) {
		l, e := maps.Method(w, "M", n)
		if e != api.OK {
			return
		}
		done++
		both(t, l...)
		again, _ := maps.Parse(maps.Bits(l))
		for at := -1; at <= len(code); at++ {
			a, e := maps.At(l, at)
			b, err := maps.At(again, at)
			if text(a) != text(b) || e != err {
				t.Fatalf("%d: %s, %v; %s, %v", at, text(a), e, text(b), err)
			}
		}
	})
	if done < 100 {
		t.Errorf("only %d", done)
	}
}

// near is a frame with a place or two changed.
func (x *maker) near(f api.Frame) api.Frame {
	f = frames.Twin(f)
	for range 1 + x.r.Intn(2) {
		places := []*api.VType{}
		for _, row := range [][]api.VType{f.Locals, f.Stack} {
			for i := range row {
				places = append(places, &row[i])
			}
		}
		if len(places) > 0 {
			*places[x.r.Intn(len(places))] = some(x.r, known, 1)[0]
		}
	}
	return f
}

// above are frames of which a few are reached, from which a typing is raised.
func (x *maker) above(least []api.Frame) []api.Frame {
	l := make([]api.Frame, len(least))
	for range 1 + x.r.Intn(3) {
		n := x.r.Intn(len(l))
		if frames.Reached(least[n]) {
			l[n] = x.near(least[n])
		} else if x.r.Intn(2) == 0 {
			l[n] = api.Frame{Self: top, Locals: some(x.r, known, 3), Stack: some(x.r, known, x.r.Intn(4))}
		}
	}
	return l
}

// holdsNoMore tells whether each place that a map holds the other one holds, too; they have equally many.
func holdsNoMore(a, b api.Map) bool {
	x, y := bitText(a.Locals)+bitText(a.Stack), bitText(b.Locals)+bitText(b.Stack)
	if a.At != b.At || len(a.Locals) != len(b.Locals) || len(x) != len(y) {
		return false
	}
	for i := range x {
		if x[i] > y[i] {
			return false
		}
	}
	return true
}

// P1204: of instructions that the least typing reaches the maps of a higher one hold no place that the least one's do not.
func TestHigherTypingsHoldNoMore(t *testing.T) {
	x := newMaker(t, 1204)
	higher, fewer := 0, 0
	x.each(t, 200, 12, func(w *hier.World, n int, code []byte) {
		least, e := verify.Method(w, "M", n)
		if e != api.OK {
			return
		}
		low, _ := maps.Method(w, "M", n)
		for range 4 {
			up, e := typing.Raise(w, "M", n, x.above(least))
			if e != api.OK {
				continue
			}
			high, e := maps.Of(code, up)
			if e != api.OK || len(high) != len(low) {
				t.Fatalf("%v, %s", e, texts(high))
			}
			higher++
			less := false
			for i := range high {
				if frames.Reached(least[i]) {
					less = less || text(high[i]) != text(low[i])
					if !holdsNoMore(high[i], low[i]) {
						t.Fatalf("%d: %s, of the least %s", i, text(high[i]), text(low[i]))
					}
				}
			}
			if less {
				fewer++
			}
		}
	})
	if higher < 500 || fewer < 100 {
		t.Errorf("only %d, %d of them with fewer", higher, fewer)
	}
}

// P1204: a higher typing by hand: an object of a class further up is one, nothing known is none, and where the least one comes to nothing a higher one may have objects.
func TestHigherTypingsByHand(t *testing.T) {
	w := alone(t, "static f (LD;LD;I)V", 1, 3, "nop\nreturn\nload 0\nthrow")
	c, _, _ := w.Class("M")
	for _, x := range []struct{ frames, maps string }{
		{"top | LD; LD; num |\ntop | LD; LD; num |\n-\n-", "0 110/\n1 110/\n2 /\n4 /"},
		{"top | LA; LD; num |\ntop | LObject; top num |\n-\n-", "0 110/\n1 100/\n2 /\n4 /"},
		{"top | top top top |\ntop | top top top |\n-\n-", "0 000/\n1 000/\n2 /\n4 /"},
		{"top | LD; LD; num |\ntop | LD; LD; num |\ntop | LX; nil num |\ntop | LX; nil top | LX;", "0 110/\n1 110/\n2 110/\n4 110/1"},
	} {
		l := framesOf(x.frames)
		if n, e := typing.Check(w, "M", 0, l); n != 0 || e != api.OK {
			t.Fatalf("%s: no typing: %d, %v", x.frames, n, e)
		}
		if got, e := maps.Of(c.Methods[0].Code, l); e != api.OK || texts(got) != texts(mapsOf(x.maps)) {
			t.Errorf("%s: %v, %s", x.frames, e, texts(got))
		}
	}
}
