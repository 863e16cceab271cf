package heap_test

import (
	"math"
	"strconv"
	"strings"
	"testing"

	"keystone/api"
	"keystone/heap"
)

// P1301: a heap at first has nothing, however much it may give out.
func TestNew(t *testing.T) {
	w := world(t, family()...)
	for _, most := range []int{math.MinInt, -1, 0, 1, 16, room, math.MaxInt} {
		h := heap.New(w, most)
		if h.Bytes() != 0 || h.Count() != 0 || len(h.Reach(0, 1, 2, -1)) > 0 {
			t.Errorf("%d: %s", most, picture(h))
		}
		if _, e := h.Type(1); e != api.ErrAddr {
			t.Errorf("%d: %v", most, e)
		}
	}
}

// P1301, P1302: objects of each sort of class: their slots in the order of the layout, at first 0 or nil; numbered as they are made.
func TestMake(t *testing.T) {
	const none = ""
	h := begin(t)
	bytes := 0
	for i, x := range []struct{ class, tags string }{
		{"A", "nooo"},
		{"B", "nooo" + "onn"},
		{"C", "nooo"},
		{"D", "nooo" + "oooooo"},
		{"Empty", none},
		{"Statics", none},
		{"Shut", "nooo" + "n" + "o"},
		{"X", "oo"},
		{"Object", none},
		{"Throwable", none},
		{"NilError", none},
		{"BoundsError", none},
		{"CastError", none},
		{"DivError", none},
		{"DepthError", none},
		{"HeapError", none},
		{"A", "nooo"},
		{"B", "nooo" + "onn"},
	} {
		n, e := h.Make(x.class)
		if n != int64(i)+1 || e != api.OK {
			t.Fatalf("%s: %d, %v", x.class, n, e)
		}
		var want []api.Value
		for _, c := range x.tags {
			want = append(want, api.Value{Ref: c == 'o'})
		}
		holds(t, h, n, want...)
		if got, e := h.Type(n); got != (api.Type{Name: x.class}) || e != api.OK {
			t.Errorf("%s: type %v, %v", x.class, got, e)
		}
		size := 16 + 8*len(x.tags)
		if got, e := h.Size(n); got != size || e != api.OK {
			t.Errorf("%s: size %d, %v", x.class, got, e)
		}
		if got, e := h.Len(n); got != 0 || e != api.ErrKind {
			t.Errorf("%s: length %d, %v", x.class, got, e)
		}
		bytes += size
		if h.Count() != i+1 || h.Bytes() != bytes {
			t.Errorf("%s: %d objects, %d bytes; wanted %d", x.class, h.Count(), h.Bytes(), bytes)
		}
	}
}

// P1301: of no class, an interface, an abstract class there are no objects: nothing is given out, no number taken.
func TestMakeOfNone(t *testing.T) {
	for _, most := range []int{room, 16, 0, -1} {
		h := heap.New(world(t, family()...), most)
		for _, s := range []string{"None", "", "a", "object", "Object ", "LA;", "[A", "A\x00", "\xff", "<init>", "n", strings.Repeat("A", 32), strings.Repeat("A", 1000), "I", "J", "K", "Open"} {
			for range 2 {
				if n, e := h.Make(s); n != 0 || e != api.ErrMember {
					t.Errorf("%q: %d, %v", s, n, e)
				}
			}
		}
		if h.Count() != 0 || h.Bytes() != 0 {
			t.Errorf("%s", picture(h))
		}
		if n, e := h.Make("Empty"); most >= 16 && (n != 1 || e != api.OK) || most < 16 && (n != 0 || e != api.ErrFull) {
			t.Errorf("%d: %d, %v", most, n, e)
		}
	}
}

// P1301: as many fields as a class may have from itself and all above it.
func TestMakeOfTheGreatest(t *testing.T) {
	var l []api.Class
	up := "Object"
	for i := range api.MaxChain - 1 {
		var fields []string
		for j := range api.MaxFields {
			s := "I"
			if (i+j)%3 == 0 {
				s = "LObject;"
			}
			fields = append(fields, "f"+strconv.Itoa(j)+" "+s)
		}
		name := "G" + strconv.Itoa(i)
		l = append(l, class(name+" "+up, fields...))
		up = name
	}
	count := (api.MaxChain - 1) * api.MaxFields
	h := heap.New(world(t, l...), 16+8*count)
	n := made(t, h, up)
	if size, e := h.Size(n); size != 16+8*count || e != api.OK || h.Bytes() != size {
		t.Errorf("%d, %v", size, e)
	}
	got := slots(h, n)
	if len(got) != count {
		t.Fatalf("%d slots", len(got))
	}
	for k, v := range got {
		if v != (api.Value{Ref: (k/api.MaxFields+k%api.MaxFields)%3 == 0}) {
			t.Fatalf("slot %d: %v", k, v)
		}
	}
}

// P1301, P1302: arrays of elements of each kind.
func TestArray(t *testing.T) {
	h := begin(t)
	bytes := 0
	for i, s := range []string{"I", "LA;", "LObject;", "LI;", "LOpen;", "LThrowable;", "LEmpty;", "[I", "[LA;", "[[LK;", "[[[[[[[I", "[[[[[[[LA;", "[[[[[[LObject;"} {
		n, e := h.Array(typ(s), 3)
		if n != int64(i)+1 || e != api.OK {
			t.Fatalf("%s: %d, %v", s, n, e)
		}
		bytes += 16 + 3*8
		first := api.Value{Ref: s != "I"}
		holds(t, h, n, first, first, first)
		if got, e := h.Type(n); got != typ("["+s) || e != api.OK {
			t.Errorf("%s: type %v, %v", s, got, e)
		}
		if size, e := h.Size(n); size != 40 || e != api.OK {
			t.Errorf("%s: size %d, %v", s, size, e)
		}
		if size, e := h.Len(n); size != 3 || e != api.OK {
			t.Errorf("%s: length %d, %v", s, size, e)
		}
		if h.Count() != i+1 || h.Bytes() != bytes {
			t.Errorf("%s: %d objects, %d bytes", s, h.Count(), h.Bytes())
		}
	}
}

// wrongTypes are types that are not right, that name a class that is not there, or have too many dimensions for elements.
func wrongTypes() []api.Type {
	var l []api.Type
	for _, dims := range []int{math.MinInt, -1 << 32, -8, -1, 8, 9, 10, 1 << 32, math.MaxInt} {
		l = append(l, api.Type{Dims: dims}, api.Type{Dims: dims, Name: "A"}, api.Type{Dims: dims, Name: "Object"}, api.Type{Dims: dims, Name: "None"})
	}
	for dims := range 9 {
		for _, s := range []string{"None", "1", "A ", " A", "a", "object", "LA;", "[A", "<init>", "\xff", "A\x00", strings.Repeat("A", 32), strings.Repeat("A", 33), strings.Repeat("A", 1000)} {
			l = append(l, api.Type{Dims: dims, Name: s})
		}
	}
	return l
}

// P1301: ErrType, whatever the length and the room.
func TestArrayOfWrongTypes(t *testing.T) {
	w := world(t, family()...)
	for _, most := range []int{room, 16, 0, -1} {
		h := heap.New(w, most)
		for _, x := range wrongTypes() {
			for _, n := range []int{0, 1, -1, api.MaxArray, api.MaxArray + 1, math.MinInt, math.MaxInt} {
				if got, e := h.Array(x, n); got != 0 || e != api.ErrType {
					t.Errorf("%v %d: %d, %v", x, n, got, e)
				}
			}
		}
		if h.Count() != 0 || h.Bytes() != 0 {
			t.Errorf("%d objects, %d bytes", h.Count(), h.Bytes())
		}
	}
}

// P1301: elements may have one dimension less than the most.
func TestArrayOfManyDimensions(t *testing.T) {
	for _, name := range []string{"", "A", "I", "Object"} {
		h := begin(t)
		for dims := range api.MaxDims {
			n, e := h.Array(api.Type{Dims: dims, Name: name}, 1)
			if n != int64(dims)+1 || e != api.OK {
				t.Fatalf("%d %s: %d, %v", dims, name, n, e)
			}
			if got, _ := h.Type(n); got != (api.Type{Dims: dims + 1, Name: name}) {
				t.Errorf("%d %s: %v", dims, name, got)
			}
		}
		if n, e := h.Array(api.Type{Dims: api.MaxDims, Name: name}, 1); n != 0 || e != api.ErrType {
			t.Errorf("%s: %d, %v", name, n, e)
		}
	}
}

// P1301: lengths at the edges; ErrArg comes ahead of ErrFull.
func TestArrayOfEachLength(t *testing.T) {
	w := world(t, family()...)
	for _, s := range []string{"I", "LA;", "[I"} {
		for _, n := range []int{0, 1, 2, api.MaxArray - 1, api.MaxArray} {
			h := heap.New(w, room)
			ref := row(t, h, s, n)
			if size, e := h.Len(ref); size != n || e != api.OK {
				t.Errorf("%s %d: length %d, %v", s, n, size, e)
			}
			if size, e := h.Size(ref); size != 16+8*n || e != api.OK || h.Bytes() != size {
				t.Errorf("%s %d: size %d, %v; %d bytes", s, n, size, e, h.Bytes())
			}
			l := slots(h, ref)
			if len(l) != n {
				t.Errorf("%s %d: %d slots", s, n, len(l))
			}
			for i, v := range l {
				if v != (api.Value{Ref: s != "I"}) {
					t.Fatalf("%s %d: slot %d holds %v", s, n, i, v)
				}
			}
		}
		for _, most := range []int{room, 16, 0, math.MinInt} {
			h := heap.New(w, most)
			for _, n := range []int{-1, -2, api.MaxArray + 1, api.MaxArray + 2, 1 << 20, 1 << 32, 1<<32 + 1, -1 << 32, 1 << 61, 1<<61 - 2, math.MinInt, math.MaxInt} {
				if ref, e := h.Array(typ(s), n); ref != 0 || e != api.ErrArg {
					t.Errorf("%s %d of %d: %d, %v", s, n, most, ref, e)
				}
			}
			if h.Count() != 0 || h.Bytes() != 0 {
				t.Errorf("%s", picture(h))
			}
		}
	}
}

// P1301: the heap is filled to its last byte; one byte less is refused, and a smaller one behind it is not.
func TestFull(t *testing.T) {
	w := world(t, family()...)
	for _, x := range []struct {
		name string
		size int
		make func(h *heap.Heap) (int64, api.Errno)
	}{
		{"Empty", 16, func(h *heap.Heap) (int64, api.Errno) { return h.Make("Empty") }},
		{"A", 48, func(h *heap.Heap) (int64, api.Errno) { return h.Make("A") }},
		{"B", 72, func(h *heap.Heap) (int64, api.Errno) { return h.Make("B") }},
		{"no numbers", 16, func(h *heap.Heap) (int64, api.Errno) { return h.Array(typ("I"), 0) }},
		{"5 numbers", 56, func(h *heap.Heap) (int64, api.Errno) { return h.Array(typ("I"), 5) }},
		{"a row", 24, func(h *heap.Heap) (int64, api.Errno) { return h.Array(typ("[LA;"), 1) }},
		{"the longest", 16 + 8*65536, func(h *heap.Heap) (int64, api.Errno) { return h.Array(typ("LA;"), 65536) }},
	} {
		for _, ahead := range []int{0, 16, 40} {
			for _, most := range []int{x.size - 1, x.size, x.size + 1} {
				h := heap.New(w, ahead+most)
				if ahead > 0 {
					row(t, h, "I", (ahead-16)/8)
				}
				before := picture(h)
				n, e := x.make(h)
				if most < x.size {
					if n != 0 || e != api.ErrFull || picture(h) != before {
						t.Errorf("%s of %d bytes behind %d: %d, %v\n%s", x.name, most, ahead, n, e, picture(h))
					}
					continue
				}
				if n != int64(h.Count()) || e != api.OK || h.Bytes() != ahead+x.size {
					t.Errorf("%s of %d bytes behind %d: %d, %v, %d bytes", x.name, most, ahead, n, e, h.Bytes())
				}
				if n, e := h.Make("Empty"); n != 0 || e != api.ErrFull {
					t.Errorf("one more than %s: %d, %v", x.name, n, e)
				}
			}
		}
	}
}

// P1301: behind one that is refused a smaller one has room, and the next number.
func TestSmallerOnesBehindRefusedOnes(t *testing.T) {
	h := heap.New(world(t, family()...), 16+48+24)
	if n := made(t, h, "A"); n != 1 {
		t.Fatal(n)
	}
	for range 3 {
		if n, e := h.Make("A"); n != 0 || e != api.ErrFull {
			t.Errorf("%d, %v", n, e)
		}
		if n, e := h.Array(typ("LA;"), 4); n != 0 || e != api.ErrFull {
			t.Errorf("%d, %v", n, e)
		}
		if h.Count() != 1 || h.Bytes() != 48 {
			t.Errorf("%d objects, %d bytes", h.Count(), h.Bytes())
		}
	}
	if n := row(t, h, "I", 1); n != 2 {
		t.Errorf("%d", n)
	}
	if n, e := h.Array(typ("I"), 1); n != 0 || e != api.ErrFull {
		t.Errorf("%d, %v", n, e)
	}
	if n := made(t, h, "Empty"); n != 3 || h.Bytes() != 88 || h.Count() != 3 {
		t.Errorf("%d: %d bytes", n, h.Bytes())
	}
	if n, e := h.Array(typ("I"), 0); n != 0 || e != api.ErrFull {
		t.Errorf("%d, %v", n, e)
	}
}

// P1301: heaps that give out nothing, and one without a bound to speak of.
func TestNoRoomAndMuch(t *testing.T) {
	w := world(t, family()...)
	for _, most := range []int{math.MinInt, math.MinInt + 1, math.MinInt32, -17, -16, -1, 0, 1, 15} {
		h := heap.New(w, most)
		for _, s := range []string{"Empty", "A", "Object"} {
			if n, e := h.Make(s); n != 0 || e != api.ErrFull {
				t.Errorf("%d: %s: %d, %v", most, s, n, e)
			}
		}
		for _, n := range []int{0, 1, api.MaxArray} {
			if n, e := h.Array(typ("I"), n); n != 0 || e != api.ErrFull {
				t.Errorf("%d: %d, %v", most, n, e)
			}
		}
		if h.Count() != 0 || h.Bytes() != 0 {
			t.Errorf("%d: %s", most, picture(h))
		}
	}
	h := heap.New(w, math.MaxInt)
	for i := range 20 {
		if n := row(t, h, "I", api.MaxArray); n != int64(i)+1 {
			t.Errorf("%d", n)
		}
	}
	if h.Bytes() != 20*(16+8*api.MaxArray) {
		t.Errorf("%d bytes", h.Bytes())
	}
}

// P1301, P1303: as many objects as the slow interpreter's heap has room for, and no more.
func TestAsManyAsThereIsRoom(t *testing.T) {
	h := heap.New(world(t, family()...), api.MaxTotal)
	for i := range api.MaxTotal / 16 {
		if n, e := h.Make("Empty"); n != int64(i)+1 || e != api.OK {
			t.Fatalf("%d: %d, %v", i, n, e)
		}
	}
	if n, e := h.Make("Empty"); n != 0 || e != api.ErrFull || h.Bytes() != api.MaxTotal || h.Count() != api.MaxTotal/16 {
		t.Errorf("%d, %v; %d bytes, %d objects", n, e, h.Bytes(), h.Count())
	}
}
