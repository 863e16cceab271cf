package desc_test

import (
	"math"
	"slices"
	"strconv"
	"strings"
	"testing"

	"keystone/api"
	"keystone/desc"
)

// reads is a type's text that is read as that type, and the type that is written as that text: P203, P206.
func reads(t *testing.T, s string, want api.Type) {
	t.Helper()
	if x, e := desc.Type(s); x != want || e != api.OK {
		t.Errorf("%q: %v, %v, wanted %v", s, x, e, want)
	}
	if text, e := desc.TypeText(want); text != s || e != api.OK {
		t.Errorf("%v: %q, %v, wanted %q", want, text, e, s)
	}
}

// refused is a text that is no type's.
func refused(t *testing.T, s string) {
	t.Helper()
	if x, e := desc.Type(s); x != (api.Type{}) || e != api.ErrType {
		t.Errorf("%.80q: %v, %v", s, x, e)
	}
}

// P203, P206: types of each number of dimensions, and names up to the longest.
func TestTypeTexts(t *testing.T) {
	for dims := range api.MaxDims + 1 {
		open := strings.Repeat("[", dims)
		reads(t, open+"I", api.Type{Dims: dims})
		for _, name := range []string{"A", "I", "L", "V", "_", "Node", "a0", "LI", strings.Repeat("x", api.MaxName)} {
			reads(t, open+"L"+name+";", api.Type{Dims: dims, Name: name})
		}
	}
}

// P203: texts that are no type's.
func TestTypeRefused(t *testing.T) {
	for _, s := range []string{
		"", " ", "[", "[[", "L", "L;", "LA", "[LA", "LA;;", "LA;I", "LA; ", " LA;", ";", "A", "A;", "[A;",
		"II", "I;", "I[", "[I[", "]", "I]", "V", "[V", "()", "()V", "(I)", "i", "lA;", "J", "Z",
		"L1;", "L<init>;", "LA B;", "LA.B;", "LA/B;", "L[A;", "LLA;;", "L\x00;", "Lä;", "I\x00", "\x00I", "\xffI",
		"L" + strings.Repeat("x", api.MaxName+1) + ";", "L" + strings.Repeat("x", 1<<16) + ";",
	} {
		refused(t, s)
	}
	for _, dims := range []int{9, 10, 255, 256, 257, 264, 1 << 16} {
		refused(t, strings.Repeat("[", dims))
		refused(t, strings.Repeat("[", dims)+"I")
		refused(t, strings.Repeat("[", dims)+"LA;")
	}
}

// P203: TypeText answers Check's error, and no text beside it.
func TestTypeTextOfWrongTypes(t *testing.T) {
	for _, dims := range []int{math.MinInt, -1, 0, 1, 8, 9, math.MaxInt} {
		for _, name := range []string{"", "A", "1", "<init>", "A;", strings.Repeat("x", api.MaxName+1)} {
			x := api.Type{Dims: dims, Name: name}
			s, e := desc.TypeText(x)
			if e != desc.Check(x) || (e == api.OK) != (s != "") {
				t.Errorf("%v: %q, %v, wanted %v", x, s, e, desc.Check(x))
			}
		}
	}
}

// rows calls f with every text of up to so many of these pieces.
func rows(pieces []string, most int, f func(s string)) {
	f("")
	if most == 0 {
		return
	}
	for _, p := range pieces {
		tails(p, pieces, most-1, f)
	}
}

func tails(s string, pieces []string, most int, f func(s string)) {
	f(s)
	if most == 0 {
		return
	}
	for _, p := range pieces {
		tails(s+p, pieces, most-1, f)
	}
}

// P203, P206: every short text is read or refused as the pattern says, and what is read is written again as it was.
func TestEveryShortType(t *testing.T) {
	right := whole(typePattern)
	taken := 0
	rows([]string{"[", "[[[[", "I", "L", ";", "A", "1", "_", "V", "("}, 5, func(s string) {
		if !right(s) {
			refused(t, s)
			return
		}
		taken++
		x, e := desc.Type(s)
		text, f := desc.TypeText(x)
		if e != api.OK || text != s || f != api.OK || desc.Check(x) != api.OK || x.Dims != strings.Count(s, "[") {
			t.Errorf("%q: %v, %v, %q, %v", s, x, e, text, f)
		}
	})
	if taken < 300 {
		t.Errorf("only %d texts were types", taken)
	}
}

// P205: each name once, as they come first; numbers have none.
func TestClasses(t *testing.T) {
	a, b, c := api.Type{Name: "A"}, api.Type{Name: "B"}, api.Type{Name: "C"}
	for _, x := range []struct {
		l    []api.Type
		want []string
	}{
		{nil, nil},
		{[]api.Type{}, nil},
		{[]api.Type{{}}, nil},
		{[]api.Type{{Dims: 3}, {}}, nil},
		{[]api.Type{a}, []string{"A"}},
		{[]api.Type{b, a}, []string{"B", "A"}},
		{[]api.Type{c, a, b, a, c, b}, []string{"C", "A", "B"}},
		{[]api.Type{a, a, a}, []string{"A"}},
		{[]api.Type{{}, {Dims: 2, Name: "A"}, {Dims: 1}, b, a}, []string{"A", "B"}},
		{[]api.Type{{Name: "a"}, a}, []string{"a", "A"}},
	} {
		if l := desc.Classes(x.l...); !slices.Equal(l, x.want) {
			t.Errorf("%v: %q, wanted %q", x.l, l, x.want)
		}
	}
}

// P205: whatever the list holds: types that are not right are gone through like the others.
func TestClassesOfWrongTypes(t *testing.T) {
	l := desc.Classes(api.Type{Dims: -1, Name: "B"}, api.Type{Dims: 99}, api.Type{Dims: 99, Name: "A"}, api.Type{Name: "1"}, api.Type{Name: "B"}, api.Type{Name: "1"})
	if !slices.Equal(l, []string{"B", "A", "1"}) {
		t.Errorf("%q", l)
	}
}

// P205, P1: many names, too, are told in a moment.
func TestClassesOfMany(t *testing.T) {
	const many = 200000
	var l []api.Type
	for i := range many {
		l = append(l, api.Type{Name: "N" + strconv.Itoa(i)}, api.Type{Dims: 1, Name: "N" + strconv.Itoa(i/2)})
	}
	got := desc.Classes(l...)
	if len(got) != many {
		t.Fatalf("%d names", len(got))
	}
	for i, s := range got {
		if s != "N"+strconv.Itoa(i) {
			t.Fatalf("name %d: %q", i, s)
		}
	}
}
