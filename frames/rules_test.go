package frames_test

import (
	"math"
	"math/rand"
	"slices"
	"testing"

	"keystone/api"
	"keystone/frames"
	"keystone/hier"
)

// P1, P8: whatever is handed in, of worlds that are linked and of such as are not, every call ends; and the world tells what it told before.
func TestWhateverIsHandedIn(t *testing.T) {
	r := rand.New(rand.NewSource(9))
	names := []string{"A", "B", "E", "I", "X", "", "Object", "\xff a"}
	numbers := []int{math.MinInt, -1, 0, 1, 2, 3, 4, 5, 63, 64, math.MaxInt}
	for _, w := range []*hier.World{world(t, family()...), loose(t, family()...), hier.New()} {
		before, linked := w.Names(), w.Linked()
		for range 10000 {
			a, b, c := oddFrame(r), oddFrame(r), oddFrame(r)
			frames.Below(w, a, b)
			frames.Join(w, a)
			frames.Join(w, a, b)
			frames.Join(w, a, b, c, a)
			frames.Entry(w, names[r.Intn(len(names))], numbers[r.Intn(len(numbers))])
			frames.Catch(a, names[r.Intn(len(names))])
			frames.Same(a, b)
			frames.Twin(a)
			frames.Reached(a)
			pair := some(r, odd, 2)
			frames.Swap(a, pair[0], pair[1])
		}
		if !slices.Equal(before, w.Names()) || linked != w.Linked() {
			t.Error("the world is another one")
		}
	}
}

// mark stands in spare room, ink is written over what was told: nothing else is like them.
var mark, ink = api.VType{Kind: 77}, api.VType{Kind: 78}

// roomy is a frame that is the same as f, both of its rows pieces of one memory, with spare room behind each: the Locals' reaches over the Stack.
func roomy(f api.Frame) (api.Frame, []api.VType) {
	memory := slices.Concat(f.Locals, row(mark, mark), f.Stack, row(mark, mark))
	n := len(f.Locals)
	return of(f.Self, memory[:n], memory[n+2:n+2+len(f.Stack)]), memory
}

// writeOver writes over all of a row, and grows it into its spare room.
func writeOver(l []api.VType) {
	l = l[:cap(l)]
	for i := range l {
		l[i] = ink
	}
}

// call is one that tells a frame, of two that are handed in.
type call struct {
	name string
	tell func(a, b api.Frame) api.Frame
}

func calls(w *hier.World) []call {
	join := func(l ...api.Frame) api.Frame {
		f, _ := frames.Join(w, l...)
		return f
	}
	return []call{
		{"join two", func(a, b api.Frame) api.Frame { return join(a, b) }},
		{"join one", func(a, b api.Frame) api.Frame { return join(a) }},
		{"join with none", func(a, b api.Frame) api.Frame { return join(api.Frame{}, a, api.Frame{}) }},
		{"join twice", func(a, b api.Frame) api.Frame { return join(a, a, b, b) }},
		{"catch", func(a, b api.Frame) api.Frame { return frames.Catch(a, "DivError") }},
		{"twin", func(a, b api.Frame) api.Frame { return frames.Twin(a) }},
		{"swap Self", func(a, b api.Frame) api.Frame { return frames.Swap(a, a.Self, b.Self) }},
		{"swap numbers", func(a, b api.Frame) api.Frame { return frames.Swap(a, num, null) }},
		{"swap nothing", func(a, b api.Frame) api.Frame { return frames.Swap(a, mark, null) }},
		{"entry", func(a, b api.Frame) api.Frame {
			f, _ := frames.Entry(w, "A", 2)
			return f
		}},
	}
}

// P2: what is handed in is as it was, its spare room too, and the answer hangs on neither: whoever has one may write over it and grow it.
func TestApart(t *testing.T) {
	w := world(t, family()...)
	r := rand.New(rand.NewSource(10))
	for range 1500 {
		locals, stack := r.Intn(4), r.Intn(4)
		x, y := someFrame(r, locals, stack), someFrame(r, locals, stack)
		if r.Intn(3) == 0 {
			x, y = oddFrame(r), oddFrame(r)
		}
		for _, c := range calls(w) {
			apart(t, c, x, y)
		}
	}
}

func apart(t *testing.T, c call, x, y api.Frame) {
	t.Helper()
	a, first := roomy(x)
	b, second := roomy(y)
	before := slices.Concat(first, second)
	got, again := c.tell(a, b), c.tell(a, b)
	want, stack := text(got), rowText(got.Stack)
	writeOver(got.Locals)
	if rowText(got.Stack) != stack {
		t.Fatalf("%s of %v, %v: the Locals that are told share the Stack's memory", c.name, x, y)
	}
	writeOver(got.Stack)
	if !slices.Equal(before, slices.Concat(first, second)) {
		t.Fatalf("%s of %v, %v: they became %v, %v", c.name, x, y, first, second)
	}
	writeOver(first)
	writeOver(second)
	if text(again) != want {
		t.Fatalf("%s of %v, %v: %v, once all else was written over; wanted %s", c.name, x, y, again, want)
	}
}

// P2: questions change nothing, either; nor does a join the row of frames that is handed in, nor one that is refused.
func TestQuestionsChangeNothing(t *testing.T) {
	w := world(t, family()...)
	r := rand.New(rand.NewSource(11))
	for range 3000 {
		x, y := oddFrame(r), oddFrame(r)
		a, first := roomy(x)
		b, second := roomy(y)
		had := slices.Concat(first, second)
		l := []api.Frame{a, b, {}, a, b}
		frames.Below(w, a, b)
		frames.Same(a, b)
		frames.Reached(a)
		frames.Join(w, l[:3]...)
		if !slices.Equal(had, slices.Concat(first, second)) {
			t.Fatalf("%v, %v became %v, %v", x, y, first, second)
		}
		for i, want := range []api.Frame{x, y, {}, x, y} {
			if text(l[i]) != text(want) {
				t.Fatalf("the row's %d became %v", i, l[i])
			}
		}
	}
}

// P2, P3: what Entry told may be written over; the world keeps nothing of it, and tells the same again.
func TestSameAgain(t *testing.T) {
	w := world(t, family()...)
	l := family()
	slices.Reverse(l)
	other := world(t, l...)
	for _, c := range family() {
		for i := range c.Methods {
			f, e := frames.Entry(w, c.Name, i)
			want := text(f)
			writeOver(f.Locals)
			writeOver(f.Stack)
			for _, x := range []*hier.World{w, other} {
				if again, err := frames.Entry(x, c.Name, i); err != e || text(again) != want {
					t.Errorf("%s %d: %v, %v, wanted %s, %v", c.Name, i, again, err, want, e)
				}
			}
		}
	}
}
