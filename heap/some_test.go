package heap_test

import (
	"fmt"
	"math"
	"strings"
	"testing"

	"keystone/api"
	"keystone/desc"
	"keystone/heap"
	"keystone/hier"
)

// typ is a type by its text.
func typ(s string) api.Type {
	t, e := desc.Type(s)
	if e != api.OK {
		panic(s)
	}
	return t
}

// num and obj are values.
func num(n int64) api.Value { return api.Value{N: n} }

func obj(n int64) api.Value { return api.Value{Ref: true, N: n} }

// class is one by its heading (`A Object`, `face I Object`, `abstract E Object`, behind it its faces) and its fields, each by name and type, a static one with `static` ahead.
func class(heading string, fields ...string) api.Class {
	c := api.Class{}
	w := strings.Fields(heading)
	switch w[0] {
	case "face":
		c.Flags, w = api.FFace, w[1:]
	case "abstract":
		c.Flags, w = api.FAbstract, w[1:]
	}
	c.Name, c.Super, c.Faces = w[0], w[1], w[2:]
	for _, s := range fields {
		f := api.Field{}
		w := strings.Fields(s)
		if w[0] == "static" {
			f.Flags, w = api.FStatic, w[1:]
		}
		f.Name, f.Type = w[0], typ(w[1])
		c.Fields = append(c.Fields, f)
	}
	return c
}

// family has fields of all sorts: of the class itself, from above, static ones between, hidden ones with another and with the same type, none at all.
func family() []api.Class {
	return []api.Class{
		class("face I Object"),
		class("face J Object I"),
		class("face K Object"),
		class("A Object", "n I", "static s LA;", "o LA;", "a [I", "any LObject;"),
		class("B A J", "n LB;", "any I", "k I"),
		class("C A"),
		class("D C K", "i LI;", "j LJ;", "static t I", "k LK;", "l [LI;", "m [[LA;", "o LA;"),
		class("Empty Object"),
		class("Statics Object", "static x I", "static y LA;"),
		class("abstract Open A I", "p I"),
		class("Shut Open", "q LOpen;"),
		class("X Throwable", "t LThrowable;", "e LDivError;"),
	}
}

// given are the names of the classes that are there from the beginning.
func given() []string {
	return strings.Fields("Object Throwable NilError BoundsError CastError DivError DepthError HeapError")
}

// loose is a world of these classes, world is it, linked.
func loose(t testing.TB, l ...api.Class) *hier.World {
	t.Helper()
	w := hier.New()
	if e := w.Add(api.Module{Classes: l}); e != api.OK {
		t.Fatalf("Add: %v", e)
	}
	return w
}

func world(t testing.TB, l ...api.Class) *hier.World {
	t.Helper()
	w := loose(t, l...)
	if s, e := w.Link(); e != api.OK {
		t.Fatalf("Link: %s, %v", s, e)
	}
	return w
}

// room is as much as no test of a few objects takes.
const room = 1 << 24

// begin is a heap of the family.
func begin(t testing.TB) *heap.Heap {
	t.Helper()
	return heap.New(world(t, family()...), room)
}

// made is the number of an object of a class, row that of an array of elements of a type.
func made(t testing.TB, h teller, class string) int64 {
	t.Helper()
	n, e := h.Make(class)
	if e != api.OK {
		t.Fatalf("Make %s: %d, %v", class, n, e)
	}
	return n
}

func row(t testing.TB, h teller, s string, size int) int64 {
	t.Helper()
	n, e := h.Array(typ(s), size)
	if e != api.OK {
		t.Fatalf("Array %s %d: %d, %v", s, size, n, e)
	}
	return n
}

// puts puts what may be put.
func puts(t testing.TB, h teller, ref int64, slot int, v api.Value) {
	t.Helper()
	if e := h.Put(ref, slot, v); e != api.OK {
		t.Fatalf("Put %d %d %v: %v", ref, slot, v, e)
	}
}

// teller is a heap, or what is held against one.
type teller interface {
	Make(class string) (int64, api.Errno)
	Array(t api.Type, n int) (int64, api.Errno)
	Type(ref int64) (api.Type, api.Errno)
	Len(ref int64) (int, api.Errno)
	Get(ref int64, slot int) (api.Value, api.Errno)
	Put(ref int64, slot int, v api.Value) api.Errno
	Bytes() int
	Count() int
	Size(ref int64) (int, api.Errno)
	Reach(l ...int64) []int64
}

// slots are what an object's slots hold, till there is none.
func slots(h teller, ref int64) []api.Value {
	var l []api.Value
	for slot := 0; ; slot++ {
		v, e := h.Get(ref, slot)
		if e != api.OK {
			return l
		}
		l = append(l, v)
	}
}

// picture is all that a heap tells without being changed.
func picture(h teller) string {
	var b strings.Builder
	fmt.Fprintln(&b, h.Count(), h.Bytes())
	for ref := int64(-1); ref <= int64(h.Count())+1; ref++ {
		t, e := h.Type(ref)
		fmt.Fprint(&b, ref, t, e)
		n, e := h.Len(ref)
		fmt.Fprint(&b, n, e)
		n, e = h.Size(ref)
		fmt.Fprintln(&b, n, e, slots(h, ref), h.Reach(ref))
	}
	return b.String()
}

// holds holds what an object's slots hold against what is wanted.
func holds(t testing.TB, h teller, ref int64, want ...api.Value) {
	t.Helper()
	if got := slots(h, ref); fmt.Sprint(got) != fmt.Sprint(want) {
		t.Errorf("%d holds %v, wanted %v", ref, got, want)
	}
}

// oddNumbers are objects' numbers that are none, of a heap with so many objects.
func oddNumbers(count int64) []int64 {
	return []int64{0, -1, -2, -count, -count - 1, count + 1, count + 2, 1 << 31, 1 << 32, 1<<32 + 1, -1 << 32, 1<<32 - 1, math.MaxInt32, math.MinInt32, math.MaxInt64, math.MinInt64, math.MinInt64 + 1}
}

// oddSlots are slots' numbers that are none, of an object with so many slots.
func oddSlots(count int) []int {
	return []int{-1, -2, -count - 1, count, count + 1, 1 << 16, 1<<32 + count, 1 << 32, -1 << 32, math.MaxInt32, math.MinInt32, math.MaxInt, math.MinInt}
}
