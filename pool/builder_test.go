package pool_test

import (
	"slices"
	"strings"
	"testing"

	"keystone/api"
	"keystone/pool"
)

// builds holds what a call on a builder answered, and the entries behind it, against what is wanted: P303.
func builds(t *testing.T, b *pool.Builder, i int, e api.Errno, want int, l ...api.Entry) {
	t.Helper()
	if i != want || e != api.OK || !slices.Equal(b.Pool(), l) {
		t.Errorf("%d, %v, %.300v, wanted %d, %.300v", i, e, b.Pool(), want, l)
	}
}

// call is one on a builder: the entries that it puts into one that has none, of which the last one is told, and what it hands in, in the model's words.
type call struct {
	say  string
	do   func(b *pool.Builder) (int, api.Errno)
	puts []api.Entry
}

func calls() []call {
	void := api.Sig{Void: true}
	return []call{
		{"text ", func(b *pool.Builder) (int, api.Errno) { return b.Text("") }, []api.Entry{text("")}},
		{"text A", func(b *pool.Builder) (int, api.Errno) { return b.Text("A") }, []api.Entry{text("A")}},
		{"text \xff\x00", func(b *pool.Builder) (int, api.Errno) { return b.Text("\xff\x00") }, []api.Entry{text("\xff\x00")}},
		{"text ()V", func(b *pool.Builder) (int, api.Errno) { return b.Text("()V") }, []api.Entry{text("()V")}},
		{"number 0", func(b *pool.Builder) (int, api.Errno) { return b.Number(0) }, []api.Entry{number(0)}},
		{"number -9223372036854775808", func(b *pool.Builder) (int, api.Errno) { return b.Number(-1 << 63) }, []api.Entry{number(-1 << 63)}},
		{"class A", func(b *pool.Builder) (int, api.Errno) { return b.Class("A") }, []api.Entry{text("A"), class(0)}},
		{"class I", func(b *pool.Builder) (int, api.Errno) { return b.Class("I") }, []api.Entry{text("I"), class(0)}},
		{"type I", func(b *pool.Builder) (int, api.Errno) { return b.Type(api.Type{}) }, []api.Entry{text("I"), typ(0)}},
		{"type [[LA;", func(b *pool.Builder) (int, api.Errno) { return b.Type(api.Type{Dims: 2, Name: "A"}) }, []api.Entry{text("[[LA;"), typ(0)}},
		{"field class A x I", func(b *pool.Builder) (int, api.Errno) { return b.Field("A", "x", api.Type{}) }, []api.Entry{text("A"), class(0), text("x"), text("I"), field(1, 2, 3)}},
		{"field class A A [[LA;", func(b *pool.Builder) (int, api.Errno) { return b.Field("A", "A", api.Type{Dims: 2, Name: "A"}) }, []api.Entry{text("A"), class(0), text("[[LA;"), field(1, 0, 2)}},
		{"field class I I I", func(b *pool.Builder) (int, api.Errno) { return b.Field("I", "I", api.Type{}) }, []api.Entry{text("I"), class(0), field(1, 0, 0)}},
		{"field class A I I", func(b *pool.Builder) (int, api.Errno) { return b.Field("A", "I", api.Type{}) }, []api.Entry{text("A"), class(0), text("I"), field(1, 2, 2)}},
		{"method class A <init> ()V", func(b *pool.Builder) (int, api.Errno) { return b.Method("A", "<init>", void) }, []api.Entry{text("A"), class(0), text("<init>"), text("()V"), method(1, 2, 3)}},
		{"method class A A ()V", func(b *pool.Builder) (int, api.Errno) { return b.Method("A", "A", void) }, []api.Entry{text("A"), class(0), text("()V"), method(1, 0, 2)}},
		{"method class I x (ILA;)I", func(b *pool.Builder) (int, api.Errno) {
			return b.Method("I", "x", api.Sig{Params: []api.Type{{}, {Name: "A"}}})
		}, []api.Entry{text("I"), class(0), text("x"), text("(ILA;)I"), method(1, 2, 3)}},
	}
}

// P303: each call of a builder that has nothing: what it puts in, in which order; P304: told again it is the same.
func TestCallsOfAnEmptyBuilder(t *testing.T) {
	for _, c := range calls() {
		b := pool.New()
		for range 2 {
			i, e := c.do(b)
			builds(t, b, i, e, len(c.puts)-1, c.puts...)
		}
	}
}

// P303: what is there already is used, and only what there is not is put behind the others.
func TestUsedAgain(t *testing.T) {
	l := []api.Entry{text("I"), text("A"), class(1), text("x"), number(4)}
	b := pool.New(l...)
	i, e := b.Text("x")
	builds(t, b, i, e, 3, l...)
	i, e = b.Number(4)
	builds(t, b, i, e, 4, l...)
	i, e = b.Class("A")
	builds(t, b, i, e, 2, l...)
	i, e = b.Field("A", "x", api.Type{})
	l = append(l, field(2, 3, 0))
	builds(t, b, i, e, 5, l...)
	i, e = b.Method("x", "A", api.Sig{})
	l = append(l, class(3), text("()I"), method(6, 1, 7))
	builds(t, b, i, e, 8, l...)
	i, e = b.Type(api.Type{})
	l = append(l, typ(0))
	builds(t, b, i, e, 9, l...)
	i, e = b.Method("A", "x", api.Sig{})
	l = append(l, method(2, 3, 7))
	builds(t, b, i, e, 10, l...)
}

// P303: a text, a class, a type of the same words are three, a field and a method too, and a number no text.
func TestKindsAreApart(t *testing.T) {
	b := pool.New()
	b.Text("I")
	b.Class("I")
	b.Type(api.Type{})
	b.Number(0)
	b.Text("0")
	b.Field("I", "I", api.Type{})
	i, e := b.Method("I", "I", api.Sig{})
	builds(t, b, i, e, 7, text("I"), class(0), typ(0), number(0), text("0"), field(1, 0, 0), text("()I"), method(1, 0, 6))
}

// P303: of what is there twice the first one is told; an entry that uses a second one does not count.
func TestFirstOfTwo(t *testing.T) {
	l := []api.Entry{text("A"), text("A"), class(1), text("x"), class(0), class(0), text("I"), text("I"), field(5, 3, 6), field(4, 3, 7), typ(7), number(2), number(2), text("x")}
	b := pool.New(l...)
	i, e := b.Text("A")
	builds(t, b, i, e, 0, l...)
	i, e = b.Text("x")
	builds(t, b, i, e, 3, l...)
	i, e = b.Number(2)
	builds(t, b, i, e, 11, l...)
	i, e = b.Class("A")
	builds(t, b, i, e, 4, l...)
	i, e = b.Field("A", "x", api.Type{})
	l = append(l, field(4, 3, 6))
	builds(t, b, i, e, 14, l...)
	i, e = b.Type(api.Type{})
	l = append(l, typ(6))
	builds(t, b, i, e, 15, l...)
	l = []api.Entry{class(2), field(0, 2, 3), text("A"), text("I"), field(0, 2, 3)}
	b = pool.New(l...)
	i, e = b.Field("A", "A", api.Type{})
	builds(t, b, i, e, 1, l...)
}

// P303: New of entries that are a pool has them, of others none.
func TestNew(t *testing.T) {
	right := [][]api.Entry{nil, {}, {text("")}, {class(1), text("A")}, {number(1), number(1)}, slices.Repeat([]api.Entry{text("A"), class(0)}, 2048)}
	for _, l := range right {
		if p := pool.New(l...).Pool(); !slices.Equal(p, l) {
			t.Errorf("%.200v, wanted %.200v", p, l)
		}
	}
	wrong := [][]api.Entry{{{}}, {text("A"), class(0), {Kind: 7}}, {class(0), text("A")}, {text("1"), class(0)}, {text("A"), {Kind: api.CNumber, A: 1}}, {text(strings.Repeat("x", 256))}, slices.Repeat([]api.Entry{text("A")}, 4097)}
	for _, l := range wrong {
		b := pool.New(l...)
		if p := b.Pool(); len(p) != 0 {
			t.Errorf("%.200v, wanted none", p)
		}
		i, e := b.Class("B")
		builds(t, b, i, e, 1, text("B"), class(0))
	}
}

// refused holds a call that must answer that error: P303, P4, P5: no number beside it, nothing put in.
func refused(t *testing.T, what string, b *pool.Builder, want api.Errno, do func() (int, api.Errno)) {
	t.Helper()
	had := b.Pool()
	for range 2 {
		if i, e := do(); i != 0 || e != want {
			t.Errorf("%s: %d, %v, wanted %v", what, i, e, want)
		}
		if !slices.Equal(b.Pool(), had) {
			t.Errorf("%s has put something in", what)
		}
	}
}

// full is a builder that has room for so many entries more.
func full(room int) *pool.Builder {
	l := []api.Entry{text("A"), class(0), text("x"), text("I"), field(1, 2, 3), text("()V"), method(1, 2, 5), typ(3), number(9)}
	for len(l) < api.MaxPool-room {
		l = append(l, number(int64(-len(l))))
	}
	return pool.New(l...)
}

// wrongCalls holds each call that must be refused, on that builder.
func wrongCalls(t *testing.T, b *pool.Builder) {
	t.Helper()
	ok, deep, odd := api.Type{}, api.Type{Dims: 9, Name: "A"}, api.Type{Name: "1"}
	void := api.Sig{Void: true}
	for _, s := range []string{strings.Repeat("x", 256), strings.Repeat("x", 1<<20)} {
		refused(t, "Text", b, api.ErrLong, func() (int, api.Errno) { return b.Text(s) })
	}
	for _, s := range []string{"", "1", "a b", "<init>", "\xff", "[A", strings.Repeat("x", 33), strings.Repeat("x", 256)} {
		refused(t, "Class", b, api.ErrName, func() (int, api.Errno) { return b.Class(s) })
		refused(t, "Field, class", b, api.ErrName, func() (int, api.Errno) { return b.Field(s, "x", ok) })
		refused(t, "Field, name", b, api.ErrName, func() (int, api.Errno) { return b.Field("A", s, deep) })
		refused(t, "Method, class", b, api.ErrName, func() (int, api.Errno) { return b.Method(s, "x", void) })
		if s != "<init>" {
			refused(t, "Method, name", b, api.ErrName, func() (int, api.Errno) { return b.Method("A", s, api.Sig{Result: deep}) })
		}
	}
	for e, x := range map[api.Errno]api.Type{api.ErrArg: deep, api.ErrName: odd} {
		refused(t, "Type", b, e, func() (int, api.Errno) { return b.Type(x) })
		refused(t, "Field, type", b, e, func() (int, api.Errno) { return b.Field("A", "x", x) })
		refused(t, "Method, result", b, e, func() (int, api.Errno) { return b.Method("A", "x", api.Sig{Result: x}) })
		refused(t, "Method, parameter", b, e, func() (int, api.Errno) {
			return b.Method("A", "x", api.Sig{Params: []api.Type{ok, x}, Void: true})
		})
	}
	refused(t, "Type below 0", b, api.ErrArg, func() (int, api.Errno) { return b.Type(api.Type{Dims: -1}) })
	refused(t, "Method, void", b, api.ErrArg, func() (int, api.Errno) { return b.Method("A", "x", api.Sig{Void: true, Result: api.Type{Dims: 1}}) })
	refused(t, "Method, 17", b, api.ErrMany, func() (int, api.Errno) { return b.Method("A", "x", api.Sig{Params: make([]api.Type, 17)}) })
	refused(t, "Method, 17 long ones", b, api.ErrMany, func() (int, api.Errno) {
		return b.Method("A", "x", api.Sig{Params: slices.Repeat([]api.Type{{Name: strings.Repeat("x", 32)}}, 17)})
	})
	for _, n := range []int{256, 257, 547} {
		g, _ := long(n)
		refused(t, "Method, long", b, api.ErrLong, func() (int, api.Errno) { return b.Method("A", "<init>", g) })
		refused(t, "Method, long and no name", b, api.ErrName, func() (int, api.Errno) { return b.Method("A", "", g) })
	}
}

// long is a void signature, of classes, and its text, of so many bytes: 6 to 547.
func long(bytes int) (api.Sig, string) {
	g, s := api.Sig{Void: true}, "("
	for left := bytes - len("()V"); left > 0; {
		n := min(left, 34)
		if left > 34 && left < 37 {
			n = left - 3
		}
		name := strings.Repeat("x", n-2)
		g.Params = append(g.Params, api.Type{Name: name})
		s += "L" + name + ";"
		left -= n
	}
	return g, s + ")V"
}

// P303, P6: wrong calls, of a builder that has room and of one that has none: ErrMany is told last.
func TestWrongCalls(t *testing.T) {
	wrongCalls(t, pool.New())
	wrongCalls(t, full(100))
	wrongCalls(t, full(0))
}

// P303: texts and signatures of just MaxText bytes are taken.
func TestLongest(t *testing.T) {
	b := pool.New()
	s := strings.Repeat("\xff", 255)
	i, e := b.Text(s)
	l := []api.Entry{text(s), text("A"), class(1), text("x")}
	builds(t, b, i, e, 0, l[0])
	for _, n := range []int{255, 254, 253} {
		g, sig := long(n)
		if len(sig) != n {
			t.Fatalf("%d bytes, wanted %d", len(sig), n)
		}
		i, e = b.Method("A", "x", g)
		l = append(l, text(sig), method(2, 3, len(l)))
		builds(t, b, i, e, len(l)-1, l...)
	}
}

// P303: MaxPool: a call is taken just where what it would put in has room; else nothing is put in.
func TestRoom(t *testing.T) {
	for _, x := range []struct {
		what  string
		needs int
		do    func(b *pool.Builder) (int, api.Errno)
	}{
		{"text", 1, func(b *pool.Builder) (int, api.Errno) { return b.Text("new") }},
		{"text that is there", 0, func(b *pool.Builder) (int, api.Errno) { return b.Text("x") }},
		{"number", 1, func(b *pool.Builder) (int, api.Errno) { return b.Number(5) }},
		{"number that is there", 0, func(b *pool.Builder) (int, api.Errno) { return b.Number(9) }},
		{"class", 2, func(b *pool.Builder) (int, api.Errno) { return b.Class("new") }},
		{"class of a text that is there", 1, func(b *pool.Builder) (int, api.Errno) { return b.Class("x") }},
		{"class that is there", 0, func(b *pool.Builder) (int, api.Errno) { return b.Class("A") }},
		{"type", 2, func(b *pool.Builder) (int, api.Errno) { return b.Type(api.Type{Dims: 1}) }},
		{"type that is there", 0, func(b *pool.Builder) (int, api.Errno) { return b.Type(api.Type{}) }},
		{"field", 5, func(b *pool.Builder) (int, api.Errno) { return b.Field("N", "n", api.Type{Dims: 1}) }},
		{"field of its class's name", 4, func(b *pool.Builder) (int, api.Errno) { return b.Field("N", "N", api.Type{Dims: 1}) }},
		{"field of another type", 2, func(b *pool.Builder) (int, api.Errno) { return b.Field("A", "x", api.Type{Dims: 1}) }},
		{"field of another name", 1, func(b *pool.Builder) (int, api.Errno) { return b.Field("A", "I", api.Type{}) }},
		{"field of another class", 2, func(b *pool.Builder) (int, api.Errno) { return b.Field("x", "x", api.Type{}) }},
		{"field that is there", 0, func(b *pool.Builder) (int, api.Errno) { return b.Field("A", "x", api.Type{}) }},
		{"method", 5, func(b *pool.Builder) (int, api.Errno) { return b.Method("N", "n", api.Sig{}) }},
		{"method of another name", 2, func(b *pool.Builder) (int, api.Errno) { return b.Method("A", "<init>", api.Sig{Void: true}) }},
		{"method that is there", 0, func(b *pool.Builder) (int, api.Errno) { return b.Method("A", "x", api.Sig{Void: true}) }},
	} {
		for room := range 7 {
			b := full(room)
			had := b.Pool()
			if room < x.needs {
				refused(t, x.what, b, api.ErrMany, func() (int, api.Errno) { return x.do(b) })
				continue
			}
			i, e := x.do(b)
			now := b.Pool()
			if e != api.OK || len(had) != api.MaxPool-room || len(now) != len(had)+x.needs || !slices.Equal(now[:len(had)], had) || x.needs > 0 && i != len(now)-1 {
				t.Errorf("%s, room for %d: %d, %v, %d entries, had %d", x.what, room, i, e, len(now), len(had))
			}
		}
	}
}

// P303, P5: behind a call that found no room a smaller one finds it, as if there had been no other.
func TestRoomIsKept(t *testing.T) {
	b := full(3)
	l := b.Pool()
	refused(t, "field", b, api.ErrMany, func() (int, api.Errno) { return b.Field("N", "n", api.Type{Dims: 1}) })
	i, e := b.Class("n")
	l = append(l, text("n"), class(4093))
	builds(t, b, i, e, 4094, l...)
	refused(t, "class", b, api.ErrMany, func() (int, api.Errno) { return b.Class("N") })
	i, e = b.Text("N")
	l = append(l, text("N"))
	builds(t, b, i, e, 4095, l...)
	refused(t, "text", b, api.ErrMany, func() (int, api.Errno) { return b.Text("m") })
	refused(t, "class of a text", b, api.ErrMany, func() (int, api.Errno) { return b.Class("N") })
	i, e = b.Class("n")
	builds(t, b, i, e, 4094, l...)
}

// P303: a builder that is filled one by one takes MaxPool entries.
func TestFilled(t *testing.T) {
	b := pool.New()
	for n := range api.MaxPool {
		if i, e := b.Number(int64(n)); i != n || e != api.OK {
			t.Fatalf("%d: %d, %v", n, i, e)
		}
	}
	refused(t, "number", b, api.ErrMany, func() (int, api.Errno) { return b.Number(-1) })
	if i, e := b.Number(4095); i != 4095 || e != api.OK || len(b.Pool()) != 4096 {
		t.Errorf("%d, %v, %d entries", i, e, len(b.Pool()))
	}
}
