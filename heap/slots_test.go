package heap_test

import (
	"math"
	"testing"

	"keystone/api"
	"keystone/heap"
)

// The chapter's example.
func TestExample(t *testing.T) {
	h := begin(t)
	if n, e := h.Array(api.Type{}, 2); n != 1 || e != api.OK {
		t.Fatalf("%d, %v", n, e)
	}
	if n, e := h.Size(1); n != 32 || e != api.OK || h.Bytes() != 32 {
		t.Errorf("%d, %v", n, e)
	}
	if v, e := h.Get(1, 0); v != num(0) || e != api.OK {
		t.Errorf("%v, %v", v, e)
	}
	for _, v := range []api.Value{num(0), num(5), obj(0), obj(1), obj(9)} {
		if e := h.Put(1, 2, v); e != api.ErrArg {
			t.Errorf("%v: %v", v, e)
		}
	}
	if e := h.Put(1, 0, obj(0)); e != api.ErrWrong {
		t.Errorf("%v", e)
	}
}

// P1302, P4: of numbers that no object has: ErrAddr, whatever else is wrong, and nothing beside it.
func TestNoObject(t *testing.T) {
	h := begin(t)
	for count := range int64(4) {
		if count > 0 {
			made(t, h, "A")
		}
		before := picture(h)
		for _, ref := range oddNumbers(count) {
			if ref >= 1 && ref <= count {
				continue
			}
			if x, e := h.Type(ref); x != (api.Type{}) || e != api.ErrAddr {
				t.Errorf("Type %d: %v, %v", ref, x, e)
			}
			if n, e := h.Len(ref); n != 0 || e != api.ErrAddr {
				t.Errorf("Len %d: %d, %v", ref, n, e)
			}
			if n, e := h.Size(ref); n != 0 || e != api.ErrAddr {
				t.Errorf("Size %d: %d, %v", ref, n, e)
			}
			for _, slot := range []int{0, 1, 3, 4, -1, math.MaxInt, math.MinInt} {
				if v, e := h.Get(ref, slot); v != (api.Value{}) || e != api.ErrAddr {
					t.Errorf("Get %d %d: %v, %v", ref, slot, v, e)
				}
				for _, v := range []api.Value{num(0), num(1), obj(0), obj(1), obj(-1), obj(99)} {
					if e := h.Put(ref, slot, v); e != api.ErrAddr {
						t.Errorf("Put %d %d %v: %v", ref, slot, v, e)
					}
				}
			}
		}
		if picture(h) != before {
			t.Errorf("%s became %s", before, picture(h))
		}
	}
}

// P1302, P4: slots that an object, an array has not: ErrArg, whatever is put.
func TestNoSlot(t *testing.T) {
	h := begin(t)
	for _, x := range []struct {
		ref   int64
		count int
	}{{made(t, h, "A"), 4}, {made(t, h, "D"), 10}, {made(t, h, "Empty"), 0}, {made(t, h, "Statics"), 0}, {made(t, h, "Object"), 0}, {row(t, h, "I", 0), 0}, {row(t, h, "I", 1), 1}, {row(t, h, "LA;", 7), 7}, {row(t, h, "[I", api.MaxArray), api.MaxArray}} {
		for _, slot := range oddSlots(x.count) {
			if slot >= 0 && slot < x.count {
				continue
			}
			if v, e := h.Get(x.ref, slot); v != (api.Value{}) || e != api.ErrArg {
				t.Errorf("Get %d %d: %v, %v", x.ref, slot, v, e)
			}
			for _, v := range []api.Value{num(0), num(-1), obj(0), obj(x.ref), obj(-1), obj(99)} {
				if e := h.Put(x.ref, slot, v); e != api.ErrArg {
					t.Errorf("Put %d %d %v: %v", x.ref, slot, v, e)
				}
			}
		}
		for slot := range x.count {
			if _, e := h.Get(x.ref, slot); e != api.OK {
				t.Errorf("Get %d %d: %v", x.ref, slot, e)
			}
		}
	}
}

// P1302: numbers of all sizes are put and got, and no other slot is another one.
func TestNumbers(t *testing.T) {
	h := begin(t)
	a, b, l := made(t, h, "A"), made(t, h, "B"), row(t, h, "I", 3)
	for _, n := range []int64{1, -1, 7, 1 << 31, -1 << 31, 1 << 32, math.MaxInt64, math.MinInt64, 0} {
		puts(t, h, a, 0, num(n))
		puts(t, h, b, 5, num(n+1))
		puts(t, h, l, 1, num(n-1))
		holds(t, h, a, num(n), obj(0), obj(0), obj(0))
		holds(t, h, b, num(0), obj(0), obj(0), obj(0), obj(0), num(n+1), num(0))
		holds(t, h, l, num(0), num(n-1), num(0))
	}
}

// P1302: a number where an object's slot is, and the other way about; this comes ahead of an object that is none, and of one of another type.
func TestWrongTags(t *testing.T) {
	h := begin(t)
	a, b := made(t, h, "A"), made(t, h, "B")
	numbers, objects, rows := row(t, h, "I", 2), row(t, h, "LA;", 2), row(t, h, "[I", 2)
	before := picture(h)
	for _, n := range []int64{0, a, b, numbers, 99, -1, math.MinInt64, math.MaxInt64} {
		for _, x := range []struct {
			ref  int64
			slot int
		}{{a, 0}, {b, 0}, {b, 5}, {b, 6}, {numbers, 0}, {numbers, 1}} {
			if e := h.Put(x.ref, x.slot, obj(n)); e != api.ErrWrong {
				t.Errorf("%v %v: %v", x, obj(n), e)
			}
		}
		for _, x := range []struct {
			ref  int64
			slot int
		}{{a, 1}, {a, 2}, {a, 3}, {b, 1}, {b, 4}, {objects, 0}, {objects, 1}, {rows, 0}} {
			if e := h.Put(x.ref, x.slot, num(n)); e != api.ErrWrong {
				t.Errorf("%v %v: %v", x, num(n), e)
			}
		}
	}
	if picture(h) != before {
		t.Errorf("%s became %s", before, picture(h))
	}
}

// P1302: an object's number that is none, in each object's slot: ErrAddr; the slot keeps what it held.
func TestNoObjectIsPut(t *testing.T) {
	h := begin(t)
	d := made(t, h, "D")
	l := row(t, h, "LA;", 2)
	puts(t, h, d, 1, obj(d))
	puts(t, h, l, 1, obj(d))
	before := picture(h)
	for _, n := range oddNumbers(2) {
		if n == 0 {
			continue
		}
		for slot := 1; slot < 10; slot++ {
			if e := h.Put(d, slot, obj(n)); e != api.ErrAddr {
				t.Errorf("%d %d: %v", slot, n, e)
			}
		}
		for slot := range 2 {
			if e := h.Put(l, slot, obj(n)); e != api.ErrAddr {
				t.Errorf("element %d %d: %v", slot, n, e)
			}
		}
	}
	if picture(h) != before {
		t.Errorf("%s became %s", before, picture(h))
	}
}

// P1302: what is below a slot's type may be put there: by the same class, a class, an interface, Object, an array; all else is refused.
func TestTypesOfWhatIsPut(t *testing.T) {
	h := begin(t)
	named := map[string]int64{"nil": 0, "none": 99}
	for _, s := range []string{"A", "B", "C", "D", "Empty", "Shut", "X", "Object", "DivError"} {
		named[s] = made(t, h, s)
	}
	for _, s := range []string{"I", "LA;", "LI;", "LB;", "[LA;", "[I", "LObject;"} {
		named["["+s] = row(t, h, s, 1)
	}
	d := named["D"]
	for _, x := range []struct {
		slot int
		what string
		want api.Errno
	}{
		{1, "A", api.OK}, {1, "B", api.OK}, {1, "D", api.OK}, {1, "Shut", api.OK}, {1, "nil", api.OK}, {1, "Object", api.ErrWrong}, {1, "Empty", api.ErrWrong}, {1, "[LA;", api.ErrWrong}, {1, "[I", api.ErrWrong}, {1, "none", api.ErrAddr},
		{2, "[I", api.OK}, {2, "nil", api.OK}, {2, "[LA;", api.ErrWrong}, {2, "[[I", api.ErrWrong}, {2, "Object", api.ErrWrong}, {2, "[LObject;", api.ErrWrong},
		{3, "Object", api.OK}, {3, "A", api.OK}, {3, "[I", api.OK}, {3, "[[LA;", api.OK}, {3, "[LObject;", api.OK}, {3, "X", api.OK}, {3, "nil", api.OK}, {3, "none", api.ErrAddr},
		{4, "B", api.OK}, {4, "Shut", api.OK}, {4, "A", api.ErrWrong}, {4, "D", api.ErrWrong}, {4, "Object", api.ErrWrong}, {4, "[LI;", api.ErrWrong}, {4, "nil", api.OK},
		{5, "B", api.OK}, {5, "Shut", api.ErrWrong}, {5, "nil", api.OK},
		{6, "D", api.OK}, {6, "B", api.ErrWrong}, {6, "nil", api.OK},
		{7, "[LI;", api.OK}, {7, "[LB;", api.ErrWrong}, {7, "B", api.ErrWrong}, {7, "[LObject;", api.ErrWrong},
		{8, "[[LA;", api.OK}, {8, "[LA;", api.ErrWrong}, {8, "[[I", api.ErrWrong}, {8, "nil", api.OK},
		{9, "C", api.OK}, {9, "Empty", api.ErrWrong}, {9, "C", api.OK},
	} {
		had, _ := h.Get(d, x.slot)
		v := obj(named[x.what])
		if e := h.Put(d, x.slot, v); e != x.want {
			t.Errorf("%d %s: %v, wanted %v", x.slot, x.what, e, x.want)
		}
		if x.want != api.OK {
			v = had
		}
		if got, e := h.Get(d, x.slot); got != v || e != api.OK {
			t.Errorf("%d %s: holds %v, %v; wanted %v", x.slot, x.what, got, e, v)
		}
	}
}

// slotTypes are all types of slots that there are in the family, of few dimensions.
func slotTypes() []api.Type {
	l := []api.Type{{}, {Dims: 1}, {Dims: 2}, {Dims: 7}}
	names := given()
	for _, c := range family() {
		names = append(names, c.Name)
	}
	for _, s := range names {
		for _, dims := range []int{0, 1, 2, 7} {
			l = append(l, api.Type{Dims: dims, Name: s})
		}
	}
	return l
}

// P1302: Put of each object into an element of each type.
func TestEachTypeInEach(t *testing.T) {
	h, m := begin(t), newModel(family(), room)
	for _, h := range []teller{h, m} {
		for _, x := range slotTypes() {
			if x.Dims == 0 {
				h.Make(x.Name)
			}
			h.Array(x, 1)
		}
	}
	if h.Count() != m.Count() || h.Count() < 80 {
		t.Fatalf("%d objects, %d", h.Count(), m.Count())
	}
	fits, wrong := 0, 0
	for ref := int64(1); ref <= int64(h.Count()); ref++ {
		for n := int64(-1); n <= int64(h.Count())+1; n++ {
			for slot := range len(m.objects[ref-1].slots) {
				want := m.Put(ref, slot, obj(n))
				if e := h.Put(ref, slot, obj(n)); e != want {
					t.Fatalf("%d into %d of %v: %v, wanted %v", n, slot, m.objects[ref-1].t, e, want)
				}
				switch want {
				case api.OK:
					fits++
				case api.ErrWrong:
					wrong++
				}
			}
		}
	}
	if fits < 100 || wrong < 1000 {
		t.Errorf("only %d, %d", fits, wrong)
	}
	if a, b := picture(h), picture(m); a != b {
		t.Errorf("%s, wanted %s", a, b)
	}
}

// P1302: several errors at once: that of the first in their order.
func TestSeveralErrors(t *testing.T) {
	h := begin(t)
	a, l := made(t, h, "A"), row(t, h, "I", 1)
	for _, x := range []struct {
		ref  int64
		slot int
		v    api.Value
		want api.Errno
	}{
		{9, 9, obj(9), api.ErrAddr}, {0, -1, num(0), api.ErrAddr}, {-1, 0, obj(l), api.ErrAddr},
		{a, 4, obj(9), api.ErrArg}, {a, -1, num(0), api.ErrArg}, {l, 1, obj(0), api.ErrArg}, {a, 4, obj(l), api.ErrArg},
		{a, 0, obj(9), api.ErrWrong}, {l, 0, obj(9), api.ErrWrong}, {a, 1, num(9), api.ErrWrong}, {l, 0, obj(-1), api.ErrWrong},
		{a, 1, obj(9), api.ErrAddr}, {a, 2, obj(-1), api.ErrAddr},
		{a, 1, obj(l), api.ErrWrong}, {a, 2, obj(a), api.ErrWrong},
	} {
		before := picture(h)
		if e := h.Put(x.ref, x.slot, x.v); e != x.want {
			t.Errorf("%v: %v", x, e)
		}
		if picture(h) != before {
			t.Errorf("%v changed something", x)
		}
	}
}

// P1302: the hidden field and the one that hides it are two slots.
func TestHiddenFields(t *testing.T) {
	h := begin(t)
	b, d := made(t, h, "B"), made(t, h, "D")
	puts(t, h, b, 0, num(7))
	puts(t, h, b, 4, obj(b))
	puts(t, h, b, 3, obj(d))
	puts(t, h, b, 5, num(8))
	puts(t, h, b, 6, num(9))
	holds(t, h, b, num(7), obj(0), obj(0), obj(d), obj(b), num(8), num(9))
	puts(t, h, d, 1, obj(b))
	puts(t, h, d, 9, obj(d))
	holds(t, h, d, num(0), obj(b), obj(0), obj(0), obj(0), obj(0), obj(0), obj(0), obj(0), obj(d))
}

// P1302: the elements at both ends of the longest array.
func TestLongestArray(t *testing.T) {
	h := begin(t)
	a := made(t, h, "A")
	l := row(t, h, "LA;", api.MaxArray)
	for _, slot := range []int{0, api.MaxArray - 1} {
		puts(t, h, l, slot, obj(a))
	}
	for slot := range api.MaxArray {
		want := obj(0)
		if slot == 0 || slot == api.MaxArray-1 {
			want = obj(a)
		}
		if v, e := h.Get(l, slot); v != want || e != api.OK {
			t.Fatalf("%d: %v, %v", slot, v, e)
		}
	}
	if e := h.Put(l, api.MaxArray, obj(a)); e != api.ErrArg {
		t.Error(e)
	}
}

// P1302: an object is as it was, whatever is made behind it.
func TestOldObjectsStay(t *testing.T) {
	h := heap.New(world(t, family()...), room)
	a := made(t, h, "A")
	puts(t, h, a, 0, num(5))
	puts(t, h, a, 1, obj(a))
	for i := range 1000 {
		made(t, h, "A")
		row(t, h, "LA;", i%7)
	}
	holds(t, h, a, num(5), obj(a), obj(0), obj(0))
	holds(t, h, 2, num(0), obj(0), obj(0), obj(0))
}
