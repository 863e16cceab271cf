package pool_test

import (
	"math/rand"
	"slices"
	"strings"
	"testing"

	"keystone/api"
	"keystone/pool"
)

// checked holds Check against what is wanted: P301.
func checked(t *testing.T, at int, want api.Errno, l ...api.Entry) {
	t.Helper()
	if i, e := pool.Check(l); i != at || e != want {
		t.Errorf("%.200v: %d, %v, wanted %d, %v", l, i, e, at, want)
	}
}

// P301: lists that are a pool.
func TestPools(t *testing.T) {
	checked(t, 0, api.OK)
	checked(t, 0, api.OK, text(""))
	checked(t, 0, api.OK, text("no name, \xff\x00"), number(0), number(-1<<63), number(1<<63-1))
	checked(t, 0, api.OK, text("A"), text("A"), number(1), number(1))
	checked(t, 0, api.OK, text("A"), class(0))
	checked(t, 0, api.OK, class(1), text("A"))
	checked(t, 0, api.OK, typ(1), text("[[LA;"), typ(1))
	checked(t, 0, api.OK, text("I"), class(0), typ(0), field(1, 0, 0))
	checked(t, 0, api.OK, field(1, 2, 3), class(2), text("A"), text("I"))
	checked(t, 0, api.OK, method(1, 2, 3), class(4), text("<init>"), text("()V"), text("A"))
	checked(t, 0, api.OK, text("A"), class(0), text("run"), text("(I[ILA;)LA;"), method(1, 2, 3), method(1, 0, 3))
}

// P301, wrong 1: kinds that are none.
func TestKinds(t *testing.T) {
	for _, kind := range []int{-1 << 63, -1, 0, 7, 8, 256 + 1, 1<<32 + 1, 1<<63 - 1} {
		e := api.Entry{Kind: kind}
		checked(t, 0, api.ErrKind, e)
		checked(t, 2, api.ErrKind, text("A"), class(0), e)
		checked(t, 1, api.ErrKind, text("A"), e, class(9))
		e.Text, e.N, e.A, e.B, e.C = "A", 1, 2, 3, 4
		checked(t, 0, api.ErrKind, e)
	}
}

// spoiled are an entry with one field of another value, named by its letter.
func spoiled(e api.Entry) map[string]api.Entry {
	s, n, a, b, c := e, e, e, e, e
	s.Text += "x"
	n.N--
	a.A++
	b.B--
	c.C++
	return map[string]api.Entry{"Text": s, "N": n, "A": a, "B": b, "C": c}
}

// P301, wrong 2: each field that a kind does not use must be zero, each one that it uses need not.
func TestUnusedFields(t *testing.T) {
	for kind, used := range map[int]string{api.CText: "Text", api.CNumber: "N", api.CClass: "A", api.CType: "A", api.CField: "A B C", api.CMethod: "A B C"} {
		for name, e := range spoiled(api.Entry{Kind: kind}) {
			_, err := pool.Check([]api.Entry{e})
			if uses := slices.Contains(strings.Fields(used), name); uses == (err == api.ErrArg) {
				t.Errorf("kind %d, %s: %v", kind, name, err)
			}
		}
	}
	base := []api.Entry{text("A"), text("I"), text("()V"), number(4), class(0), typ(1), field(4, 0, 1), method(4, 0, 2)}
	checked(t, 0, api.OK, base...)
	for i, used := range []string{"Text", "Text", "Text", "N", "A", "A", "A B C", "A B C"} {
		for name, e := range spoiled(base[i]) {
			l := slices.Clone(base)
			l[i] = e
			if !slices.Contains(strings.Fields(used), name) {
				checked(t, i, api.ErrArg, l...)
			}
		}
	}
}

// P301, wrong 2: what is not used is told ahead of a text that is too long, of entries that are not there.
func TestUnusedFieldsFirst(t *testing.T) {
	checked(t, 0, api.ErrArg, api.Entry{Kind: api.CText, Text: strings.Repeat("x", 256), C: 1})
	checked(t, 0, api.ErrArg, api.Entry{Kind: api.CClass, A: 9, B: 1})
	checked(t, 0, api.ErrArg, api.Entry{Kind: api.CType, A: 9, Text: "I"})
	checked(t, 0, api.ErrArg, api.Entry{Kind: api.CField, A: 9, B: 9, C: 9, N: 1})
	checked(t, 0, api.ErrArg, api.Entry{Kind: api.CMethod, A: 9, B: 9, C: 9, Text: "x"})
	checked(t, 1, api.ErrArg, text("1"), api.Entry{Kind: api.CClass, A: 0, C: 1})
}

// P301, wrong 3: MaxText.
func TestLongTexts(t *testing.T) {
	for _, n := range []int{0, 1, 254, 255} {
		checked(t, 0, api.OK, text(strings.Repeat("\xff", n)))
	}
	for _, n := range []int{256, 257, 510, 1 << 16, 1 << 20} {
		checked(t, 0, api.ErrLong, text(strings.Repeat("x", n)))
		checked(t, 1, api.ErrLong, text("A"), text(strings.Repeat("x", n)), class(9))
	}
}

// P301, wrong 4: numbers of no entry, of entries of other kinds.
func TestNumbersOfNoEntry(t *testing.T) {
	base := []api.Entry{text("A"), class(0), text("I"), text("()V"), number(0), typ(2), field(1, 0, 2), method(1, 0, 3)}
	last := len(base)
	for _, i := range []int{-1 << 63, -1, 1, 4, 5, 6, 7, 8, 9, 4096, 1 << 32, 1<<63 - 1} {
		for _, e := range []api.Entry{class(i), typ(i), field(1, i, 2), field(1, 0, i), method(1, i, 3), method(1, 0, i)} {
			checked(t, last, api.ErrEntry, append(base, e)...)
		}
	}
	for _, i := range []int{-1 << 63, -1, 0, 2, 4, 5, 6, 7, 8, 9, 4096, 1 << 32, 1<<63 - 1} {
		checked(t, last, api.ErrEntry, append(base, field(i, 0, 2))...)
		checked(t, last, api.ErrEntry, append(base, method(i, 0, 3))...)
	}
	checked(t, 0, api.ErrEntry, class(0))
	checked(t, 0, api.ErrEntry, field(0, 0, 0))
}

// P301, wrong 4: texts that are none of a name, a type, a signature.
func TestTextsOfNoName(t *testing.T) {
	base := []api.Entry{text("A"), class(0), text("I"), text("()V")}
	for _, s := range []string{"", "1", "a-b", "\xff", "<clinit>", "[I", strings.Repeat("x", 33)} {
		for _, e := range []api.Entry{class(5), field(1, 5, 2), method(1, 5, 3)} {
			checked(t, 4, api.ErrName, append(base, e, text(s))...)
		}
	}
	checked(t, 4, api.ErrName, append(base, class(5), text("<init>"))...)
	checked(t, 4, api.ErrName, append(base, field(1, 5, 2), text("<init>"))...)
	checked(t, 0, api.OK, append(base, method(1, 5, 3), text("<init>"))...)
	for _, s := range []string{"", "A", "V", "[", "L;", "II", "()V", strings.Repeat("[", 9) + "I"} {
		checked(t, 4, api.ErrType, append(base, typ(5), text(s))...)
		checked(t, 4, api.ErrType, append(base, field(1, 0, 5), text(s))...)
	}
	for _, s := range []string{"", "I", "()", "(V)V", "()VV"} {
		checked(t, 4, api.ErrType, append(base, method(1, 0, 5), text(s))...)
	}
	checked(t, 4, api.ErrMany, append(base, method(1, 0, 5), text("("+strings.Repeat("I", 17)+")V"))...)
	checked(t, 0, api.OK, append(base, method(1, 0, 5), text("("+strings.Repeat("I", 16)+")V"))...)
}

// P301, wrong 4: A, then B, then C, each wholly.
func TestNumbersInOrder(t *testing.T) {
	base := []api.Entry{text("A"), class(0), text("1"), text("I"), text("()V"), text("<init>")}
	at := len(base)
	for _, x := range []struct {
		e    api.Entry
		want api.Errno
	}{
		{field(0, 2, 2), api.ErrEntry}, {field(1, 2, 9), api.ErrName}, {field(1, 9, 2), api.ErrEntry}, {field(1, 2, 2), api.ErrName}, {field(1, 5, 9), api.ErrName}, {field(1, 0, 2), api.ErrType}, {field(1, 0, 9), api.ErrEntry}, {field(1, 0, 3), api.OK},
		{method(0, 2, 2), api.ErrEntry}, {method(1, 2, 9), api.ErrName}, {method(1, 9, 2), api.ErrEntry}, {method(1, 2, 2), api.ErrName}, {method(1, 5, 9), api.ErrEntry}, {method(1, 0, 2), api.ErrType}, {method(1, 0, 9), api.ErrEntry}, {method(1, 5, 4), api.OK},
	} {
		if x.want == api.OK {
			at = 0
		}
		checked(t, at, x.want, append(base, x.e)...)
		at = len(base)
	}
}

// P301: an entry is not wrong where those that it uses are so in ways of their own; the first one that is wrong is told.
func TestFirstWrongEntry(t *testing.T) {
	long := "(" + strings.Repeat("L"+strings.Repeat("x", 32)+";", 8) + ")V"
	checked(t, 3, api.ErrLong, text("A"), class(0), method(1, 0, 3), text(long))
	checked(t, 1, api.ErrArg, class(1), api.Entry{Kind: api.CText, Text: "A", N: 1})
	checked(t, 3, api.ErrEntry, text("x"), text("I"), field(3, 0, 1), class(9))
	checked(t, 0, api.ErrName, class(1), text(strings.Repeat("x", 256)))
	checked(t, 1, api.ErrKind, number(0), api.Entry{}, class(9), text(strings.Repeat("x", 256)))
	checked(t, 1, api.ErrEntry, number(0), class(9), api.Entry{}, text(strings.Repeat("x", 256)))
}

// P301: MaxPool.
func TestLongLists(t *testing.T) {
	l := slices.Repeat([]api.Entry{text("A"), class(0)}, 2048)
	checked(t, 0, api.OK, l...)
	l[4095] = class(4094)
	checked(t, 0, api.OK, l...)
	l[4095] = class(4096)
	checked(t, 4095, api.ErrEntry, l...)
	checked(t, 4096, api.ErrMany, append(l, text("B"))...)
	l[0] = api.Entry{}
	checked(t, 0, api.ErrKind, l...)
	checked(t, 4096, api.ErrMany, append(l, l...)...)
	checked(t, 4096, api.ErrMany, make([]api.Entry, 1<<17)...)
}

// P301: many lists, held against the model; each error must have been met.
func TestCheckAgainstModel(t *testing.T) {
	r := rand.New(rand.NewSource(301))
	met := map[api.Errno]int{}
	for range 200000 {
		l := someList(r)
		at, want := 0, api.OK
		for i := range l {
			if f := fault(l, i); f != api.OK {
				at, want = i, f
				break
			}
		}
		checked(t, at, want, l...)
		met[want]++
	}
	for _, e := range []api.Errno{api.OK, api.ErrKind, api.ErrArg, api.ErrLong, api.ErrEntry, api.ErrName, api.ErrType, api.ErrMany} {
		if met[e] < 200 {
			t.Errorf("%v is met %d times", e, met[e])
		}
	}
}
