package pool_test

import (
	"math/rand"
	"strconv"
	"strings"
	"testing"

	"keystone/api"
	"keystone/desc"
	"keystone/pool"
)

// asked is what the call of that kind answers, in the model's words; P4: beside an error there is nothing.
func asked(t *testing.T, l []api.Entry, i, kind int) (string, api.Errno) {
	t.Helper()
	var s, c, n string
	var x api.Type
	var g api.Sig
	var m int64
	var e api.Errno
	switch kind {
	case api.CText:
		s, e = pool.Text(l, i)
	case api.CNumber:
		m, e = pool.Number(l, i)
	case api.CClass:
		c, e = pool.Class(l, i)
	case api.CType:
		x, e = pool.Type(l, i)
	case api.CField:
		c, n, x, e = pool.Field(l, i)
	case api.CMethod:
		c, n, g, e = pool.Method(l, i)
	}
	if e != api.OK {
		if s+c+n != "" || m != 0 || x != (api.Type{}) || len(g.Params) > 0 || g.Void || g.Result != (api.Type{}) {
			t.Errorf("%.200v, %d: beside %v stands something", l, i, e)
		}
		return "", e
	}
	typeText, _ := desc.TypeText(x)
	sigText, _ := desc.SigText(g)
	return []string{"", "text " + s, "number " + strconv.FormatInt(m, 10), "class " + c, "type " + typeText, "field class " + c + " " + n + " " + typeText, "method class " + c + " " + n + " " + sigText}[kind], api.OK
}

// reads holds the call of that kind against what is wanted: P302.
func reads(t *testing.T, l []api.Entry, i, kind int, want string, err api.Errno) {
	t.Helper()
	if s, e := asked(t, l, i, kind); s != want || e != err {
		t.Errorf("%.200v, %d, kind %d: %q, %v, wanted %q, %v", l, i, kind, s, e, want, err)
	}
}

// P302: what entries say; of an entry of another kind nothing.
func TestEntriesSay(t *testing.T) {
	l := []api.Entry{text("A"), number(-5), class(0), typ(7), field(2, 8, 7), method(2, 9, 10), text(""), text("[LA;"), text("x"), text("<init>"), text("(I[ILA;)V"), method(2, 8, 12), text("()[I"), number(-1 << 63), number(1<<63 - 1)}
	want := []string{"text A", "number -5", "class A", "type [LA;", "field class A x [LA;", "method class A <init> (I[ILA;)V", "text ", "text [LA;", "text x", "text <init>", "text (I[ILA;)V", "method class A x ()[I", "text ()[I", "number -9223372036854775808", "number 9223372036854775807"}
	for i, s := range want {
		for kind := api.CText; kind <= api.CMethod; kind++ {
			if kind == l[i].Kind {
				reads(t, l, i, kind, s, api.OK)
			} else {
				reads(t, l, i, kind, "", api.ErrEntry)
			}
		}
	}
}

// P302: what a field and a method say, as it is.
func TestMembersSay(t *testing.T) {
	l := []api.Entry{text("A"), class(0), text("x"), text("[[LB;"), text("(I[LB;)LC;"), field(1, 2, 3), method(1, 2, 4), typ(3)}
	c, n, x, e := pool.Field(l, 5)
	if c != "A" || n != "x" || x != (api.Type{Dims: 2, Name: "B"}) || e != api.OK {
		t.Errorf("%s, %s, %v, %v", c, n, x, e)
	}
	c, n, g, e := pool.Method(l, 6)
	if c != "A" || n != "x" || !desc.Same(g, api.Sig{Params: []api.Type{{}, {Dims: 1, Name: "B"}}, Result: api.Type{Name: "C"}}) || e != api.OK {
		t.Errorf("%s, %s, %v, %v", c, n, g, e)
	}
	if x, e := pool.Type(l, 7); x != (api.Type{Dims: 2, Name: "B"}) || e != api.OK {
		t.Errorf("%v, %v", x, e)
	}
}

// P302: numbers of no entry.
func TestNoEntry(t *testing.T) {
	l := []api.Entry{text("A"), class(0), number(1)}
	for kind := api.CText; kind <= api.CMethod; kind++ {
		for _, i := range []int{-1 << 63, -1, 3, 4, 4096, 1 << 32, 1<<63 - 1} {
			reads(t, l, i, kind, "", api.ErrEntry)
			reads(t, nil, i, kind, "", api.ErrEntry)
		}
		reads(t, nil, 0, kind, "", api.ErrEntry)
		reads(t, l[:0], 0, kind, "", api.ErrEntry)
		for _, k := range []int{-1, 0, 7} {
			reads(t, []api.Entry{{Kind: k}}, 0, kind, "", api.ErrEntry)
		}
	}
}

// P302: what is wrong with an entry; of a field, a method also what is wrong with its class, behind its own.
func TestWrongEntriesSayNothing(t *testing.T) {
	l := []api.Entry{text("A"), text("1"), text("I"), text("()V"), text(strings.Repeat("x", 256)), {Kind: api.CText, Text: "x", A: 1}, {Kind: api.CNumber, N: 1, B: 1}, class(1), class(2), class(9), {Kind: api.CClass, N: 1}, {Kind: api.CClass, A: 9, B: 1}, typ(1), typ(9)}
	for _, x := range []struct {
		i, kind int
		want    api.Errno
	}{
		{4, api.CText, api.ErrLong}, {5, api.CText, api.ErrArg}, {6, api.CNumber, api.ErrArg}, {7, api.CClass, api.ErrName}, {9, api.CClass, api.ErrEntry}, {10, api.CClass, api.ErrArg}, {11, api.CClass, api.ErrArg}, {12, api.CType, api.ErrType}, {13, api.CType, api.ErrEntry},
	} {
		reads(t, l, x.i, x.kind, "", x.want)
	}
	last := len(l)
	for _, x := range []struct {
		a, b, c int
		want    api.Errno
	}{
		{7, 0, 2, api.ErrName}, {9, 0, 2, api.ErrEntry}, {10, 0, 2, api.ErrArg}, {11, 0, 2, api.ErrArg}, {7, 0, 9, api.ErrEntry}, {9, 1, 2, api.ErrName}, {10, 0, 0, api.ErrType}, {0, 1, 0, api.ErrEntry},
	} {
		reads(t, append(l, field(x.a, x.b, x.c)), last, api.CField, "", x.want)
		if x.c == 2 {
			x.c = 3
		}
		reads(t, append(l, method(x.a, x.b, x.c)), last, api.CMethod, "", x.want)
	}
	m := method(10, 0, 3)
	m.N = 1
	reads(t, append(l, m), last, api.CMethod, "", api.ErrArg)
}

// P302: what is wrong elsewhere, also with a text that is used, counts for nothing; nor does how long a list is.
func TestWrongElsewhere(t *testing.T) {
	long := "(" + strings.Repeat("L"+strings.Repeat("x", 32)+";", 8) + ")V"
	l := []api.Entry{{}, {Kind: api.CText, Text: "A", N: 1}, class(1), text("I"), field(2, 1, 3), text(long), method(2, 1, 5), number(3)}
	reads(t, l, 2, api.CClass, "class A", api.OK)
	reads(t, l, 4, api.CField, "field class A A I", api.OK)
	reads(t, l, 5, api.CText, "", api.ErrLong)
	reads(t, l, 6, api.CMethod, "method class A A "+long, api.OK)
	l = append(l, make([]api.Entry, 5000)...)
	l = append(l, number(7), class(1))
	reads(t, l, 7, api.CNumber, "number 3", api.OK)
	reads(t, l, len(l)-2, api.CNumber, "number 7", api.OK)
	reads(t, l, len(l)-1, api.CClass, "class A", api.OK)
}

// P302, P3: many lists, held against the model; each kind must have said something.
func TestReadAgainstModel(t *testing.T) {
	r := rand.New(rand.NewSource(302))
	met := map[int]int{}
	for range 50000 {
		l := someList(r)
		for i := -1; i <= len(l); i++ {
			for kind := api.CText; kind <= api.CMethod; kind++ {
				want, err := says(l, i, kind)
				reads(t, l, i, kind, want, err)
				if err == api.OK {
					met[kind]++
				}
			}
		}
	}
	for kind := api.CText; kind <= api.CMethod; kind++ {
		if met[kind] < 100 {
			t.Errorf("kind %d says something %d times", kind, met[kind])
		}
	}
}
