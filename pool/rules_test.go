package pool_test

import (
	"math/rand"
	"slices"
	"strings"
	"testing"

	"keystone/api"
	"keystone/desc"
	"keystone/pool"
)

// The first example of the chapter.
func TestExampleBuilder(t *testing.T) {
	b := pool.New()
	i, e := b.Class("A")
	builds(t, b, i, e, 1, text("A"), class(0))
	i, e = b.Field("A", "x", api.Type{})
	builds(t, b, i, e, 4, text("A"), class(0), text("x"), text("I"), field(1, 2, 3))
}

// The second example.
func TestExampleCheck(t *testing.T) {
	checked(t, 0, api.ErrName, class(1), text("1"))
}

// P304: rows of calls on builders that begin with some pool: all is a pool, told numbers say what was handed in and stay; held against the model.
func TestRowsOfCalls(t *testing.T) {
	r := rand.New(rand.NewSource(304))
	l := calls()
	for range 3000 {
		had := someList(r)
		if _, e := pool.Check(had); e != api.OK {
			had = nil
		}
		b := pool.New(had...)
		numbers := map[string]int{}
		for range 1 + r.Intn(12) {
			c := l[r.Intn(len(l))]
			want := told(b.Pool(), c.say)
			before := len(b.Pool())
			i, e := c.do(b)
			now := b.Pool()
			if e != api.OK || want >= 0 && (i != want || len(now) != before) || want < 0 && (i != len(now)-1 || i < before) {
				t.Fatalf("%s: %d, %v, wanted %d: %v", c.say, i, e, want, now)
			}
			numbers[c.say] = i
		}
		now := b.Pool()
		checked(t, 0, api.OK, now...)
		if !slices.Equal(now[:len(had)], had) {
			t.Fatalf("%v, began as %v", now, had)
		}
		for say, i := range numbers {
			reads(t, now, i, now[i].Kind, say, api.OK)
			if told(now, say) != i {
				t.Errorf("%s: %d is not the first: %v", say, i, now)
			}
		}
		again(t, b, numbers)
	}
}

// again holds the calls that were done once more against the numbers that they told.
func again(t *testing.T, b *pool.Builder, numbers map[string]int) {
	t.Helper()
	had := b.Pool()
	for _, c := range calls() {
		if want, ok := numbers[c.say]; ok {
			i, e := c.do(b)
			builds(t, b, i, e, want, had...)
		}
	}
}

// P304: a builder begun with another one's pool goes on as that one does.
func TestGoesOn(t *testing.T) {
	b := pool.New()
	for _, c := range calls() {
		d := pool.New(b.Pool()...)
		i, e := c.do(b)
		j, f := c.do(d)
		builds(t, d, j, f, i, b.Pool()...)
		if e != api.OK {
			t.Errorf("%s: %v", c.say, e)
		}
	}
}

// P1: no call panics, whatever entries and numbers it is handed.
func TestNoPanicOfEntries(t *testing.T) {
	numbers := []int{-1 << 63, -1, 0, 1, 2, 3, 4095, 4096, 1 << 32, 1<<63 - 1}
	for _, kind := range []int{-1 << 63, -1, 0, 1, 2, 3, 4, 5, 6, 7, 1<<63 - 1} {
		for _, a := range numbers {
			for _, b := range numbers {
				l := []api.Entry{{Kind: kind, A: a, B: b, C: a}, text("A"), class(1), {Kind: kind, Text: strings.Repeat("(", 1000), N: int64(a)}, {Kind: kind, A: b}}
				pool.Check(l)
				pool.New(l...).Field("A", "x", api.Type{})
				for k := api.CText; k <= api.CMethod; k++ {
					for i := range l {
						want, err := says(l, i, k)
						reads(t, l, i, k, want, err)
					}
					reads(t, l, a-5, k, "", api.ErrEntry)
				}
			}
		}
	}
}

// P1, P3, P4: no call panics, whatever a builder is handed; two that are handed the same answer the same.
func TestNoPanicOfBuilders(t *testing.T) {
	texts := []string{"", "A", "1", "<init>", "\xff", strings.Repeat("x", 32), strings.Repeat("x", 33), strings.Repeat("(", 1<<12)}
	var types []api.Type
	for _, dims := range []int{-1 << 63, -1, 0, 8, 9, 1<<63 - 1} {
		for _, s := range texts {
			types = append(types, api.Type{Dims: dims, Name: s})
		}
	}
	for _, c := range texts {
		for _, n := range texts {
			a, b := pool.New(), pool.New()
			for i, x := range types {
				g := api.Sig{Params: types[:i%20], Void: i%2 > 0, Result: x}
				if i%3 == 0 {
					g = api.Sig{Params: []api.Type{x}, Void: true}
				}
				for _, y := range []*pool.Builder{a, b} {
					y.Text(n)
					y.Class(c)
					y.Type(x)
					y.Field(c, n, x)
				}
				j, e := a.Method(c, n, g)
				k, f := b.Method(c, n, g)
				if j != k || e != f || e != api.OK && j != 0 {
					t.Errorf("%d, %v and %d, %v", j, e, k, f)
				}
			}
			builds(t, a, 0, api.OK, 0, b.Pool()...)
			checked(t, 0, api.OK, a.Pool()...)
		}
	}
}

// spoil writes over a list, its spare room too.
func spoil(l []api.Entry) {
	l = l[:cap(l)]
	for i := range l {
		l[i] = api.Entry{Kind: -7, Text: "spoiled", N: -7, A: -7, B: -7, C: -7}
	}
}

// P2: what is handed in is not changed, its spare room neither.
func TestNothingIsChanged(t *testing.T) {
	whole := []api.Entry{text("A"), class(0), text("I"), field(1, 0, 2), text("(I)V"), method(1, 0, 4), typ(2), number(3), {}, {Kind: 9}, text("spare")}
	for n := range len(whole) {
		l := slices.Clone(whole)
		pool.Check(l[:n])
		for k := api.CText; k <= api.CMethod; k++ {
			for i := range n {
				asked(t, l[:n], i, k)
			}
		}
		b := pool.New(l[:n]...)
		for _, c := range calls() {
			c.do(b)
		}
		spoil(b.Pool())
		if !slices.Equal(l, whole) {
			t.Errorf("%d: %v, was %v", n, l, whole)
		}
	}
	params := append(make([]api.Type, 0, 4), api.Type{}, api.Type{Name: "A"}, api.Type{Dims: 1})
	pool.New().Method("A", "x", api.Sig{Params: params[:2]})
	if !slices.Equal(params[:4], []api.Type{{}, {Name: "A"}, {Dims: 1}, {}}) {
		t.Errorf("%v", params[:4])
	}
}

// P2: a builder keeps nothing of what it is handed, and hands out nothing that it has.
func TestBuilderKeepsNothing(t *testing.T) {
	l := append(make([]api.Entry, 0, 8), text("A"), class(0))
	b := pool.New(l...)
	spoil(l)
	params := []api.Type{{}, {Name: "A"}}
	i, e := b.Method("A", "A", api.Sig{Params: params, Void: true})
	params[0], params[1] = api.Type{Dims: 3}, api.Type{}
	want := []api.Entry{text("A"), class(0), text("(ILA;)V"), method(1, 0, 2)}
	builds(t, b, i, e, 3, want...)
	p, q := b.Pool(), b.Pool()
	spoil(p)
	if !slices.Equal(q, want) {
		t.Errorf("two answers share memory: %v", q)
	}
	b.Text("new")
	if !slices.Equal(q, want) || len(q) < cap(q) && q[:5][4] == text("new") {
		t.Errorf("an answer is written to: %v", q[:cap(q)])
	}
	spoil(q)
	i, e = b.Text("new")
	builds(t, b, i, e, 4, append(want, text("new"))...)
}

// P2: what Method answers is nobody else's.
func TestMethodAnswersNewMemory(t *testing.T) {
	l := []api.Entry{text("A"), class(0), text("(ILA;)V"), method(1, 0, 2)}
	_, _, g, _ := pool.Method(l, 3)
	_, _, h, _ := pool.Method(l, 3)
	for i := range g.Params[:cap(g.Params)] {
		g.Params[:cap(g.Params)][i] = api.Type{Dims: -7}
	}
	if !desc.Same(h, api.Sig{Params: []api.Type{{}, {Name: "A"}}, Void: true}) {
		t.Errorf("two answers share memory: %v", h)
	}
	reads(t, l, 3, api.CMethod, "method class A A (ILA;)V", api.OK)
}

// P2: no list and an empty one are the same, handed in and answered.
func TestNoListIsAnEmptyOne(t *testing.T) {
	for _, l := range [][]api.Entry{nil, {}, make([]api.Entry, 0, 4)} {
		checked(t, 0, api.OK, l...)
		b := pool.New(l...)
		if len(b.Pool()) != 0 {
			t.Errorf("%v", b.Pool())
		}
		i, e := b.Text("A")
		builds(t, b, i, e, 0, text("A"))
	}
	for _, p := range [][]api.Type{nil, {}} {
		b := pool.New(text("()V"))
		i, e := b.Method("A", "x", api.Sig{Params: p, Void: true})
		builds(t, b, i, e, 4, text("()V"), text("A"), class(1), text("x"), method(2, 3, 0))
	}
}

// P7: builders are apart, also those that began with the same entries.
func TestBuildersAreApart(t *testing.T) {
	l := append(make([]api.Entry, 0, 16), text("A"))
	a, b, c := pool.New(l...), pool.New(l...), pool.New()
	if a == b || c == pool.New() {
		t.Error("two builders are one")
	}
	a.Text("B")
	b.Text("C")
	a.Class("A")
	builds(t, a, 0, api.OK, 0, text("A"), text("B"), class(0))
	builds(t, b, 0, api.OK, 0, text("A"), text("C"))
	builds(t, c, 0, api.OK, 0)
	if !slices.Equal(l[:2], []api.Entry{text("A"), {}}) {
		t.Errorf("%v", l[:2])
	}
}
