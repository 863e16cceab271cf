package desc_test

import (
	"math"
	"regexp"
	"strings"
	"testing"

	"keystone/api"
	"keystone/desc"
)

// What names and types are, said another way, to be held against what the package says.
const (
	namePattern = `[A-Za-z_][0-9A-Za-z_]{0,31}`
	typePattern = `\[{0,8}(?:I|L` + namePattern + `;)`
)

// whole is whether all of a text is of that pattern.
func whole(pattern string) func(s string) bool {
	return regexp.MustCompile(`\A(?:` + pattern + `)\z`).MatchString
}

// P201: names, and what is none; `<init>` is a method's alone.
func TestName(t *testing.T) {
	for _, s := range []string{"a", "z", "A", "Z", "_", "__", "a0", "a9", "_0", "Node", "A_9z", "I", "V", "L", "init", strings.Repeat("x", api.MaxName)} {
		if !desc.Name(s) || !desc.Method(s) {
			t.Errorf("%q: %v, %v", s, desc.Name(s), desc.Method(s))
		}
	}
	for _, s := range []string{"", "0", "9", "1a", "a b", " a", "a ", "a-", "a;", "[a", "a.b", "<a>", "<init", "init>", "<init>x", "x<init>", "<Init>", "<clinit>", "ä", "aä", "a\x00", "a\xff", strings.Repeat("x", api.MaxName+1), strings.Repeat("x", 1<<16)} {
		if desc.Name(s) || desc.Method(s) {
			t.Errorf("%q: %v, %v", s, desc.Name(s), desc.Method(s))
		}
	}
	if desc.Name("<init>") || !desc.Method("<init>") {
		t.Error("<init>")
	}
}

// P201: of every byte, alone, first and behind a letter.
func TestNameBytes(t *testing.T) {
	name := whole(namePattern)
	for c := range 256 {
		for _, s := range []string{string([]byte{byte(c)}), string([]byte{byte(c), 'a'}), string([]byte{'a', byte(c)}), string([]byte{'a', byte(c), 'a'})} {
			if desc.Name(s) != name(s) || desc.Method(s) != name(s) {
				t.Errorf("%q: %v, %v, wanted %v", s, desc.Name(s), desc.Method(s), name(s))
			}
		}
	}
}

// P201: the length counts bytes, and a name of each length up to MaxName is one.
func TestNameLength(t *testing.T) {
	for n := range 70 {
		want := n >= 1 && n <= 32
		for _, s := range []string{strings.Repeat("a", n), strings.Repeat("_", n)} {
			if desc.Name(s) != want || desc.Method(s) != want {
				t.Errorf("%d bytes: %v, %v", n, desc.Name(s), desc.Method(s))
			}
		}
	}
}

// P202: the bounds of Dims, and names that are none; Dims is asked first.
func TestCheck(t *testing.T) {
	long := strings.Repeat("x", api.MaxName)
	for _, c := range []struct {
		x    api.Type
		want api.Errno
	}{
		{api.Type{}, api.OK},
		{api.Type{Name: "A"}, api.OK},
		{api.Type{Dims: 1}, api.OK},
		{api.Type{Dims: 8}, api.OK},
		{api.Type{Dims: 8, Name: long}, api.OK},
		{api.Type{Dims: 9}, api.ErrArg},
		{api.Type{Dims: -1}, api.ErrArg},
		{api.Type{Dims: math.MaxInt, Name: "A"}, api.ErrArg},
		{api.Type{Dims: math.MinInt, Name: "A"}, api.ErrArg},
		{api.Type{Dims: 9, Name: "1"}, api.ErrArg},
		{api.Type{Dims: -1, Name: "1"}, api.ErrArg},
		{api.Type{Name: "1"}, api.ErrName},
		{api.Type{Name: "<init>"}, api.ErrName},
		{api.Type{Dims: 8, Name: long + "x"}, api.ErrName},
		{api.Type{Dims: 1, Name: " "}, api.ErrName},
	} {
		if e := desc.Check(c.x); e != c.want {
			t.Errorf("%v: %v, wanted %v", c.x, e, c.want)
		}
	}
}

// P202: a number has neither dimensions nor a name; an object's type is right.
func TestNumberAndObject(t *testing.T) {
	for _, c := range []struct {
		x              api.Type
		number, object bool
	}{
		{api.Type{}, true, false},
		{api.Type{Name: "A"}, false, true},
		{api.Type{Name: "I"}, false, true},
		{api.Type{Dims: 1}, false, true},
		{api.Type{Dims: 8}, false, true},
		{api.Type{Dims: 8, Name: "A"}, false, true},
		{api.Type{Dims: 9}, false, false},
		{api.Type{Dims: -1}, false, false},
		{api.Type{Dims: -1, Name: "A"}, false, false},
		{api.Type{Name: "1"}, false, false},
		{api.Type{Dims: 1, Name: "<init>"}, false, false},
	} {
		if n, o := desc.Number(c.x), desc.Object(c.x); n != c.number || o != c.object {
			t.Errorf("%v: %v, %v", c.x, n, o)
		}
	}
}

// P202: an array's element has one dimension less; what is no right array has none.
func TestElement(t *testing.T) {
	for dims := 1; dims <= api.MaxDims; dims++ {
		for _, name := range []string{"", "A", strings.Repeat("x", api.MaxName)} {
			x, ok := desc.Element(api.Type{Dims: dims, Name: name})
			if want := (api.Type{Dims: dims - 1, Name: name}); x != want || !ok {
				t.Errorf("%d, %q: %v, %v", dims, name, x, ok)
			}
		}
	}
	for _, x := range []api.Type{{}, {Name: "A"}, {Dims: 9}, {Dims: 9, Name: "A"}, {Dims: -1}, {Dims: -1, Name: "A"}, {Dims: 1, Name: "1"}, {Dims: 2, Name: "<init>"}, {Dims: math.MinInt}, {Dims: math.MaxInt}} {
		if y, ok := desc.Element(x); y != (api.Type{}) || ok {
			t.Errorf("%v: %v, %v", x, y, ok)
		}
	}
}
