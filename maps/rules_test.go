package maps_test

import (
	"bytes"
	"math"
	"math/rand"
	"reflect"
	"slices"
	"testing"

	"keystone/api"
	"keystone/frames"
	"keystone/hier"
	"keystone/maps"
)

// looseOf is a module with methods of M, made at random.
func looseOf(x *maker) api.Module {
	m := x.k.module()
	c := api.Class{Name: "M", Super: "A"}
	for n := range headings {
		c.Methods = append(c.Methods, x.made(n, 2+x.r.Intn(9)))
	}
	m.Classes = append(slices.Clone(m.Classes), c)
	return m
}

// P1, P8: whatever is handed in, of worlds that are linked and of such as are not, Method ends, tells nothing beside an error, and leaves the world as it is.
func TestWhateverWorldIsHandedIn(t *testing.T) {
	x := newMaker(t, 1)
	names := []string{"M", "M", "M", "A", "E", "I", "None", "", "Object", "\xff a"}
	numbers := []int{math.MinInt, -1, 0, 1, 2, 3, 4, 5, 6, 8, 9, math.MaxInt}
	for round := range 100 {
		k := begin().family()
		if round%2 == 0 {
			// Here classes are named that are not there.
			k.class("M Nowhere", k.method("static f (LGone;)LGone;", 2, 2, "a: load 0\nisnil b\nnil\nstore 0\nb: load 0\ngive\nc: throw\ncatch a c c Lost"), k.method("g ()V", 1, 1, "a: new Gone\nstore 0\njump a"))
		}
		for _, w := range []*hier.World{x.world(t, func(n int) api.Method { return x.made(n, 2+x.r.Intn(9)) }), loose(t, k.module()), hier.New(), loose(t, looseOf(x))} {
			before, linked := w.Names(), w.Linked()
			for range 20 {
				class, n := names[x.r.Intn(len(names))], numbers[x.r.Intn(len(numbers))]
				if l, e := maps.Method(w, class, n); e != api.OK && len(l) > 0 {
					t.Fatalf("%v beside %v", l, e)
				}
			}
			if !slices.Equal(before, w.Names()) || linked != w.Linked() {
				t.Error("the world is another one")
			}
		}
	}
}

// P1, P4: any bytes, any frames, any maps: every call ends, and tells zero values beside an error.
func TestWhateverIsHandedIn(t *testing.T) {
	r := rand.New(rand.NewSource(1))
	great := tooGreat()
	for range 20000 {
		b := make([]byte, r.Intn(20))
		for i := range b {
			b[i] = byte(some(r, []int{0, 1, 2, 255, r.Intn(256)}, 1)[0])
		}
		var l []api.Frame
		for range r.Intn(8) {
			l = append(l, someFrame(r, odd))
		}
		if m, e := maps.Of(b, l); e != api.OK && len(m) > 0 || e == api.OK && len(m) != len(l) {
			t.Fatalf("%v, %v: %v, %v", b, l, e, m)
		}
		m, e := maps.Parse(b)
		if e != api.OK && len(m) > 0 || e == api.OK && len(b) > 0 && len(m) == 0 {
			t.Fatalf("%v: %v, %v", b, e, m)
		}
		m = append(m, some(r, great[:22], r.Intn(2))...)
		for _, at := range []int{math.MinInt, -1, 0, 1, 255, 65535, 65536, math.MaxInt} {
			if x, e := maps.At(m, at); e != api.OK && text(x) != "0 /" || e == api.OK && x.At != at {
				t.Fatalf("%d of %v: %v, %v", at, m, e, x)
			}
		}
		maps.Bits(m)
	}
	// A row that is as long as its counts say, and as short as can be.
	all := bytes.Repeat([]byte{255}, 1<<20)
	if m, e := maps.Parse(all); e == api.OK && len(m) == 0 || e != api.OK && len(m) > 0 {
		t.Errorf("%v, %d", e, len(m))
	}
	if m, e := maps.Parse(make([]byte, 1<<20)); e != api.OK || len(m) != 1<<18 {
		t.Errorf("%v, %d", e, len(m))
	}
}

// spoil writes over bits, their spare room too.
func spoil(l []bool) {
	l = l[:cap(l)]
	for i := range l {
		l[i] = !l[i]
	}
}

// rows are all the lists of bits of maps.
func rows(l []api.Map) []*[]bool {
	var all []*[]bool
	for i := range l {
		all = append(all, &l[i].Locals, &l[i].Stack)
	}
	return all
}

// whole is all that is in maps, their spare room too.
func whole(l []api.Map) string {
	s := ""
	for _, m := range l[:cap(l)] {
		s += text(m) + " " + bitText(m.Locals[:cap(m.Locals)]) + "/" + bitText(m.Stack[:cap(m.Stack)]) + "\n"
	}
	return s
}

// apart writes over each list of maps, and grows it: no other one may change.
func apart(t *testing.T, l []api.Map) {
	t.Helper()
	for i, x := range rows(l) {
		var before []string
		for _, y := range rows(l)[i+1:] {
			before = append(before, bitText((*y)[:cap(*y)]))
		}
		spoil(*x)
		*x = append(*x, true, false, true)
		for j, y := range rows(l)[i+1:] {
			if bitText((*y)[:cap(*y)]) != before[j] {
				t.Fatalf("list %d shares memory with another one", i)
			}
		}
	}
	l = l[:cap(l)]
	for i := range l {
		l[i] = api.Map{At: -7}
	}
}

// roomy are the same maps in lists with spare room, all of them and theirs.
func roomy(r *rand.Rand, l []api.Map) []api.Map {
	room := func(bits []bool) []bool { return append(slices.Clip(bits), someBits(r, 3)...)[:len(bits)] }
	got := make([]api.Map, 0, len(l)+2)
	for _, m := range l {
		got = append(got, api.Map{At: m.At, Locals: room(m.Locals), Stack: room(m.Stack)})
	}
	return append(got, someMaps(r, 2)...)[:len(l)]
}

// P2: what Parse and At tell may be written over and grown: no two lists share memory, with each other or with what was handed in, and what is told again is as it was. What is handed in is not changed, its spare room neither, and not kept.
func TestMapsAreApart(t *testing.T) {
	r := rand.New(rand.NewSource(2))
	for range 2000 {
		l := someMaps(r, r.Intn(5))
		want := texts(l)
		handed := roomy(r, l)
		inside := whole(handed)
		b := maps.Bits(handed)
		full := append(slices.Clone(b), 1, 2, 3, 4, 5)
		was := slices.Clone(full)
		parsed, _ := maps.Parse(full[:len(b)])
		again, _ := maps.Parse(full[:len(b)])
		if whole(handed) != inside || !slices.Equal(full, was) {
			t.Fatalf("what was handed in is changed: %s\n%s", inside, whole(handed))
		}
		for _, m := range l {
			x, _ := maps.At(handed, m.At)
			y, _ := maps.At(handed, m.At)
			before := text(y)
			apart(t, []api.Map{x})
			if text(y) != before || whole(handed) != inside {
				t.Fatalf("%s, %s: what At told shares memory", before, text(y))
			}
			apart(t, roomyAt(t, r, l, m.At, before))
		}
		for i := range full {
			full[i] ^= 255
		}
		apart(t, parsed)
		if texts(again) != want {
			t.Fatalf("%s, wanted %s", texts(again), want)
		}
		apart(t, handed)
		spare := b[:cap(b)]
		for i := range spare {
			spare[i] ^= 255
		}
		if b := maps.Bits(l); texts(l) != want || !bytes.Equal(b, plainBits(l)) {
			t.Fatalf("%s: % X", want, b)
		}
	}
}

// roomyAt tells a map of maps that are then written over: it stays as it was.
func roomyAt(t *testing.T, r *rand.Rand, l []api.Map, at int, want string) []api.Map {
	t.Helper()
	handed := roomy(r, l)
	m, _ := maps.At(handed, at)
	apart(t, handed)
	if text(m) != want {
		t.Fatalf("%s, wanted %s: what was handed in is kept", text(m), want)
	}
	return []api.Map{m}
}

// P2: of bytes that were told those that are told again are apart.
func TestBytesAreApart(t *testing.T) {
	l := mapsOf("3 10/1\n7 /111111111")
	a, b := maps.Bits(l), maps.Bits(l)
	a = append(a[:cap(a)], 1)[:cap(a)]
	for i := range a {
		a[i] ^= 255
	}
	if !bytes.Equal(b, plainBits(l)) || texts(l) != texts(mapsOf("3 10/1\n7 /111111111")) {
		t.Errorf("% X", b)
	}
}

// P2: Of changes nothing of its code and frames, their spare room neither, keeps nothing of them, and tells maps that are apart; frames that share their lists are as good as others.
func TestOfIsApart(t *testing.T) {
	r := rand.New(rand.NewSource(3))
	room := func(l []api.VType) []api.VType { return append(slices.Clip(l), some(r, odd, 3)...)[:len(l)] }
	for range 2000 {
		size := 1 + r.Intn(5)
		code := append(someCode(r, size), 9, 9, 9)
		code = code[:len(code)-3]
		l := make([]api.Frame, 0, size+2)
		for range size {
			f := someFrame(r, odd)
			l = append(l, api.Frame{Self: f.Self, Locals: room(f.Locals), Stack: room(f.Stack)})
		}
		if r.Intn(3) == 0 {
			l[size-1].Stack, l[0].Locals = l[0].Stack, l[size-1].Locals
		}
		wasCode, was := slices.Clone(code[:cap(code)]), copies(l)
		got, e := maps.Of(code, l)
		other, _ := maps.Of(code, l)
		if !slices.Equal(code[:cap(code)], wasCode) || !reflect.DeepEqual(copies(l), was) {
			t.Fatal("what was handed in is changed")
		}
		want, err := plainOf(code, l)
		for i := range code {
			code[i] = 255
		}
		for _, f := range l {
			for _, row := range [][]api.VType{f.Locals[:cap(f.Locals)], f.Stack[:cap(f.Stack)]} {
				for i := range row {
					row[i] = api.VType{Kind: 7 - row[i].Kind}
				}
			}
		}
		if e != err || texts(got) != want {
			t.Fatalf("%v, %s, wanted %v, %s", e, texts(got), err, want)
		}
		apart(t, got)
		if texts(other) != want {
			t.Fatalf("%s, wanted %s", texts(other), want)
		}
	}
}

// copies are frames' lists with all their room.
func copies(l []api.Frame) []api.Frame {
	var got []api.Frame
	for _, f := range l[:cap(l)] {
		got = append(got, api.Frame{Self: f.Self, Locals: slices.Clone(f.Locals[:cap(f.Locals)]), Stack: slices.Clone(f.Stack[:cap(f.Stack)])})
	}
	return got
}

// P2, P3: a method's maps may be written over and grown: what was told, and what is told again, is as it was.
func TestMethodIsApart(t *testing.T) {
	x := newMaker(t, 4)
	done := 0
	x.each(t, 100, 12, func(w *hier.World, n int, code []byte) {
		before, e := maps.Method(w, "M", n)
		want := texts(before)
		got, _ := maps.Method(w, "M", n)
		apart(t, got)
		again, err := maps.Method(w, "M", n)
		if texts(before) != want || texts(again) != want || e != err {
			t.Fatalf("%s, %s; wanted %s", texts(before), texts(again), want)
		}
		if e == api.OK {
			done++
		}
	})
	if done < 100 {
		t.Errorf("only %d", done)
	}
}

// P2: an empty list and none are the same, handed in and told.
func TestEmptyLists(t *testing.T) {
	for _, none := range [][]bool{nil, {}, make([]bool, 0, 9), bitsOf("111")[:0]} {
		l := []api.Map{{At: 3, Locals: none, Stack: bitsOf("1")}, {At: 4, Locals: bitsOf("1"), Stack: none}, {At: 5, Locals: none, Stack: none}}
		if b := maps.Bits(l); !bytes.Equal(b, []byte{0, 3, 0, 1, 0x80, 0, 4, 1, 0, 0x80, 0, 5, 0, 0}) {
			t.Errorf("% X", b)
		}
		for _, m := range l {
			if got, e := maps.At(l, m.At); e != api.OK || text(got) != text(m) {
				t.Errorf("%s, %v", text(got), e)
			}
		}
	}
	for _, none := range [][]api.VType{nil, {}, make([]api.VType, 0, 9), row("LA;")[:0]} {
		l, e := maps.Of([]byte{api.INop, api.INop}, []api.Frame{{Self: top, Locals: none, Stack: none}, {Locals: none, Stack: none}})
		if e != api.OK || texts(l) != texts(mapsOf("0 /\n1 /")) {
			t.Errorf("%s, %v", texts(l), e)
		}
	}
}

// P3, T9: the same again, whatever was asked in between; in a world whose modules and classes came in another order, too.
func TestSameAgain(t *testing.T) {
	x := newMaker(t, 5)
	for range 60 {
		m := looseOf(x)
		family, rest := m, m
		family.Classes, rest.Classes = m.Classes[:5], slices.Clone(m.Classes[5:])
		slices.Reverse(rest.Classes)
		w, other := linked(t, m), linked(t, rest, family)
		for n := range headings {
			a, e := maps.Method(w, "M", n)
			b, err := maps.Method(other, "M", n)
			bits := maps.Bits(a)
			maps.Parse(append(slices.Clone(bits), 0))
			maps.Bits(tooGreat()[:1])
			maps.At(a, -1)
			maps.Of(bits, make([]api.Frame, 3))
			c, again := maps.Method(w, "M", n)
			if e != err || e != again || texts(a) != texts(b) || texts(a) != texts(c) || !bytes.Equal(bits, maps.Bits(c)) {
				t.Fatalf("%v, %s\n%v, %s\n%v, %s", e, texts(a), err, texts(b), again, texts(c))
			}
		}
	}
	l := framesOf("top | LA; | num\n-")
	a, _ := maps.Of([]byte{0, 0}, l)
	maps.Of([]byte{255}, nil)
	b, _ := maps.Of([]byte{0, 0}, []api.Frame{frames.Twin(l[0]), frames.Twin(l[1])})
	if texts(a) != texts(b) || texts(a) != texts(mapsOf("0 1/0\n1 /")) {
		t.Errorf("%s, %s", texts(a), texts(b))
	}
}
