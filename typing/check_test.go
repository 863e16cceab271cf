package typing_test

import (
	"math"
	"slices"
	"strings"
	"testing"

	"keystone/api"
	"keystone/hier"
	"keystone/typing"
	"keystone/verify"
)

// five is example 1 of chapter 10.
var five = method{"static f ()I", 1, 0, "number 5\ngive"}

// The chapter's examples.
func TestExamples(t *testing.T) {
	five.takes(t, "top | |\ntop | | num")
	five.refuses(t, 1, api.ErrWrong, "top | |\ntop | | top")
	five.refuses(t, 0, api.ErrTyping, "top | |\n-")
}

// P1101: frames that are a typing: the least ones, higher ones, such as stand where nothing comes.
func TestTypings(t *testing.T) {
	method{"static f (I)V", 2, 2, "load 0\nstore 1\nreturn"}.takes(t,
		"top | num top |\ntop | num top | num\ntop | num num |",
		"top | num top |\ntop | num top | num\ntop | num top |",
		"top | num top |\ntop | num top | top\ntop | top top |",
		"top | top top |\ntop | top top | top\ntop | top top |",
	)
	method{"static f (LD;LB;)LA;", 1, 2, "load 0\nstore 1\nload 1\ngive"}.takes(t,
		"top | LD; LB; |\ntop | LD; LB; | LD;\ntop | LD; LD; |\ntop | LD; LD; | LD;",
		"top | LC; LB; |\ntop | LC; top | LC;\ntop | top LC; |\ntop | top top | LA;",
		"top | LA; LObject; |\ntop | LObject; LObject; | LA;\ntop | top LA; |\ntop | top LA; | LA;",
	)
	// Where nothing comes whatever can be done may stand.
	method{"static f (I)V", 2, 1, "return\nadd\nprint\nreturn"}.takes(t,
		"top | num |\n-\n-\n-",
		"top | num |\n-\n-\nM! | A@7 | LI; [I",
		"top | num |\n-\ntop | nil | num\ntop | LObject; |",
		"top | num |\n[I | nil | num num\n[I | top | num\ntop | top |",
	)
	// Round a loop.
	method{"static f (ILD;)V", 1, 2, "again: load 0\nzero again\njump again"}.takes(t,
		"top | num LD; |\ntop | num LD; | num\ntop | num LD; |",
		"top | num LC; |\ntop | num LC; | num\ntop | num LC; |",
		"top | num top |\ntop | num top | num\ntop | num top |",
	)
	// Into a handler.
	method{"static f (ILD;)V", 1, 2, "a: nop\nb: return\nat: pop\nreturn\ncatch a b at Y"}.takes(t,
		"top | num LD; |\ntop | num LD; |\ntop | num LD; | LY;\ntop | num LD; |",
		"top | num LD; |\ntop | num LA; |\ntop | top LC; | LX;\ntop | top LObject; |",
		"top | num LC; |\ntop | top top |\ntop | num top | top\ntop | num top |",
	)
	// A constructor's.
	method{"<init> ()V", 1, 1, "load 0\ninit A <init> ()V\nreturn"}.takes(t,
		"M! | M! |\nM! | M! | M!\nLM; | LM; |",
		"M! | M! |\nM! | top | M!\nLA; | top |",
		"M! | M! |\nM! | M! | M!\nLObject; | LM; |",
	)
}

// P1101: ErrMember: a class that is not there, a number that is no method's, a method that has no code; Raise tells it, too. Nothing is asked of the frames ahead of it.
func TestNoSuchMethod(t *testing.T) {
	w := five.world(t)
	for _, x := range []struct {
		class  string
		method int
	}{
		{"", 0}, {"None", 0}, {"m", 0}, {"M ", 0}, {"LM;", 0}, {"\xff", 0},
		{"M", 1}, {"M", -1}, {"M", math.MinInt}, {"M", math.MaxInt}, {"M", 1 << 32},
		{"Object", 0}, {"Throwable", 0}, {"HeapError", 0}, {"Object", 1},
		{"I", 0}, {"J", 0}, {"E", 0}, {"E", 3},
	} {
		for _, l := range [][]api.Frame{nil, {{}, {}}, framesOf("top | |\ntop | | num"), {{Self: num}}} {
			if n, e := typing.Check(w, x.class, x.method, l); n != 0 || e != api.ErrMember {
				t.Errorf("Check of %q %d: %d, %v", x.class, x.method, n, e)
			}
			if up, e := typing.Raise(w, x.class, x.method, l); len(up) > 0 || e != api.ErrMember {
				t.Errorf("Raise of %q %d: %v, %v", x.class, x.method, up, e)
			}
		}
	}
	// Those beside them are there, by their own numbers.
	for _, x := range []struct {
		class  string
		method int
	}{{"M", 0}, {"E", 1}, {"E", 2}, {"F", 0}, {"F", 1}, {"A", 0}} {
		l, _ := verify.Method(w, x.class, x.method)
		if n, e := typing.Check(w, x.class, x.method, l); len(l) == 0 || n != 0 || e != api.OK {
			t.Errorf("Check of %q %d: %d, %v", x.class, x.method, n, e)
		}
	}
}

// P1101: ErrSuper: above a handler's class Throwable does not stand, whatever it covers; ahead of ErrArg and ErrTyping.
func TestHandlersOfWhatIsNotThrown(t *testing.T) {
	const right = "top | num |\ntop | num |\ntop | num | LX;\ntop | num |"
	for _, class := range []string{"Object", "A", "D", "I", "E", "M"} {
		for _, handlers := range []string{"catch a b at " + class, "catch b at at " + class, "catch a b at X\ncatch a b at " + class, "catch a b at " + class + "\ncatch a b at X"} {
			w := alone(t, "static f (I)V", 1, 1, "a: return\nb: nop\nat: pop\nreturn\n"+handlers)
			for _, l := range [][]api.Frame{nil, framesOf(right), framesOf("-\n-\n-\n-"), make([]api.Frame, 5), {{Self: num}, {}, {}, {}}} {
				if got := check(w, l); got != (told{0, api.ErrSuper}) {
					t.Errorf("%s: Check: %v", handlers, got)
				}
				if up, e := raise(w, l); e != api.ErrSuper || len(up) > 0 {
					t.Errorf("%s: Raise: %v, %v", handlers, up, e)
				}
			}
		}
	}
	for _, class := range []string{"Throwable", "NilError", "HeapError", "X", "Y"} {
		method{"static f (I)V", 1, 1, "a: nop\nb: return\nat: pop\nreturn\ncatch a b at " + class}.takes(t, "top | num |\ntop | num |\ntop | num | L"+class+";\ntop | num |")
	}
}

// P1101: ErrArg at 0, if there are not as many frames as instructions, whatever they are.
func TestRowsOfUnlikeLengths(t *testing.T) {
	w := method{"static f (I)V", 2, 1, "load 0\nprint\nreturn"}.world(t)
	least, _ := verify.Method(w, "M", 0)
	wrong := api.Frame{Self: num}
	for _, l := range [][]api.Frame{
		nil, {}, least[:1], least[:2], append(slices.Clone(least), least[2]), append(slices.Clone(least), api.Frame{}),
		make([]api.Frame, 2), make([]api.Frame, 4), make([]api.Frame, 6), make([]api.Frame, 1024),
		{least[0], wrong}, {wrong, wrong, wrong, wrong}, {least[0], least[1], wrong, least[2]},
	} {
		if got := check(w, l); got != (told{0, api.ErrArg}) {
			t.Errorf("%d frames: Check: %v", len(l), got)
		}
		if up, e := raise(w, l); e != api.ErrArg || len(up) > 0 {
			t.Errorf("%d frames: Raise: %v, %v", len(l), up, e)
		}
	}
	if got := check(w, least); got != (told{}) {
		t.Errorf("%v", got)
	}
}

// ref, fresh, self are knowledge of those kinds, right or not.
func ref(dims int, name string) api.VType {
	return api.VType{Kind: api.VRef, Type: api.Type{Dims: dims, Name: name}}
}

func fresh(at, dims int, name string) api.VType {
	return api.VType{Kind: api.VFresh, Type: api.Type{Dims: dims, Name: name}, At: at}
}

func self(dims int, name string) api.VType {
	return api.VType{Kind: api.VSelf, Type: api.Type{Dims: dims, Name: name}}
}

// at is knowledge with a place.
func at(v api.VType, n int) api.VType {
	v.At = n
	return v
}

// rightKnowledge is right in the family's world, at the edges of what is.
func rightKnowledge() []api.VType {
	return []api.VType{
		num, null, top,
		ref(0, "Object"), ref(0, "A"), ref(0, "I"), ref(0, "J"), ref(0, "E"), ref(0, "M"), ref(0, "HeapError"),
		ref(1, ""), ref(8, ""), ref(1, "A"), ref(8, "A"), ref(8, "I"), ref(3, "Object"),
		fresh(0, 0, "A"), fresh(1, 0, "A"), fresh(math.MaxInt, 0, "A"), fresh(5, 0, "E"), fresh(5, 0, "Object"), fresh(0, 0, "NilError"), fresh(1, 0, "M"),
		self(0, "A"), self(0, "E"), self(0, "Object"), self(0, "M"), self(0, "Y"),
	}
}

// wrongKnowledge is not, in each way.
func wrongKnowledge() []api.VType {
	l := []api.VType{
		{}, {Kind: -1}, {Kind: 7}, {Kind: math.MaxInt}, {Kind: math.MinInt}, {Type: api.Type{Name: "A"}}, {At: 1},
		{Kind: api.VNone, Type: api.Type{Dims: 1}}, {Kind: 7, Type: api.Type{Name: "A"}},
		ref(0, ""), ref(9, ""), ref(9, "A"), ref(-1, "A"), ref(-1, ""), ref(math.MaxInt, "A"), ref(math.MinInt, "A"),
		ref(0, "None"), ref(1, "None"), ref(0, "a"), ref(0, "A "), ref(0, "LA;"), ref(0, "1"), ref(0, "\xff"), ref(0, strings.Repeat("A", 33)),
		at(ref(0, "A"), 1), at(ref(0, "A"), -1), at(ref(1, ""), math.MaxInt), at(ref(0, "I"), 3),
		fresh(-1, 0, "A"), fresh(math.MinInt, 0, "A"), fresh(0, 1, "A"), fresh(0, -1, "A"), fresh(0, 0, ""), fresh(0, 1, ""), fresh(0, 0, "None"), fresh(0, 0, "I"), fresh(3, 0, "J"), fresh(0, 0, "A "),
		self(1, "A"), self(-1, "A"), self(0, ""), self(1, ""), self(0, "None"), self(0, "I"), self(0, "J"), at(self(0, "A"), 1), at(self(0, "A"), -1), at(self(0, "I"), 1),
	}
	for _, v := range []api.VType{num, null, top} {
		l = append(l, at(v, 1), at(v, -1))
		for _, t := range []api.Type{{Dims: 1}, {Dims: -1}, {Name: "A"}, {Name: "None"}, {Dims: 1, Name: "A"}} {
			l = append(l, api.VType{Kind: v.Kind, Type: t})
		}
	}
	return l
}

// idle is a method whose second and third instructions nothing comes to, and which can be done in every frame: there each right frame is one of a typing.
var idle = method{"static f (I)V", 2, 2, "return\na: jump a\nb: jump b"}

// idleWith are its frames, with those of the second and the third one.
func idleWith(a, b api.Frame) []api.Frame { return []api.Frame{of("top | num top |"), a, b} }

// isRight wants of a frame that it is right, or not: ErrArg then tells its number, ahead of all ErrTyping.
func isRight(t *testing.T, w *hier.World, f api.Frame, right bool) {
	t.Helper()
	for n, l := range [][]api.Frame{idleWith(f, api.Frame{}), idleWith(api.Frame{}, f), idleWith(f, f), idleWith(f, api.Frame{Self: num})} {
		want := told{[]int{1, 2, 1, 1}[n], api.ErrArg}
		if right {
			want = []told{{}, {}, {}, {2, api.ErrArg}}[n]
		}
		if got := check(w, l); got != want {
			t.Errorf("%d: %+v: told %v, wanted %v", n, f, got, want)
		}
		up, e := raise(w, l)
		if e != want.err || right && e == api.OK && texts(up) != texts(l) || e != api.OK && len(up) > 0 {
			t.Errorf("%d: %+v: raised %v, %s", n, f, e, texts(up))
		}
		// Ahead of ErrTyping of the first frame.
		l[0] = api.Frame{}
		if want == (told{}) {
			want.err = api.ErrTyping
		}
		if got := check(w, l); got != want {
			t.Errorf("%d: %+v behind an empty one: told %v, wanted %v", n, f, got, want)
		}
	}
}

// P1101, W7: knowledge that is right, and such as is not, in each place of a frame.
func TestKnowledgeThatIsNotRight(t *testing.T) {
	w := idle.world(t)
	all := rightKnowledge()
	for n, v := range slices.Concat(all, wrongKnowledge()) {
		right := n < len(all)
		isRight(t, w, api.Frame{Self: top, Locals: []api.VType{v, top}}, right)
		isRight(t, w, api.Frame{Self: top, Locals: []api.VType{num, v}, Stack: []api.VType{num}}, right)
		isRight(t, w, api.Frame{Self: top, Locals: []api.VType{num, top}, Stack: []api.VType{v}}, right)
		isRight(t, w, api.Frame{Self: top, Locals: []api.VType{v, num}, Stack: []api.VType{null, v}}, right)
		own := v.Kind == api.VTop || v.Kind == api.VSelf || v.Kind == api.VRef
		isRight(t, w, api.Frame{Self: v, Locals: []api.VType{num, num}, Stack: []api.VType{num}}, right && own)
	}
}

// P1101, W9: frames that have not as many places as their method, and such as are empty but not quite.
func TestFramesThatAreNotRight(t *testing.T) {
	w := idle.world(t)
	for _, s := range []string{"top | num num |", "top | num num | num", "top | num num | num num", "M! | M! nil | nil nil", "[I | top top |", "LI; | top top |"} {
		isRight(t, w, of(s), true)
	}
	for _, s := range []string{"top | num |", "top | num num num |", "top | |", "top | num num | num num num", "top | num | num", "top | num num num | num", "num | num num |", "nil | num num |", "A@0 | num num |", "top | | num num"} {
		isRight(t, w, of(s), false)
	}
	empty := []api.VType{}
	for _, f := range []api.Frame{{}, {Locals: empty}, {Stack: empty}, {Locals: empty, Stack: make([]api.VType, 0, 3)}} {
		isRight(t, w, f, true)
	}
	two := []api.VType{num, num}
	for _, f := range []api.Frame{{Locals: two}, {Stack: two}, {Stack: two[:1]}, {Locals: two, Stack: two}, {Locals: []api.VType{{}, {}}}, {Self: api.VType{At: 1}}, {Self: api.VType{Type: api.Type{Name: "A"}}}, {Self: api.VType{Type: api.Type{Dims: 1}}, Locals: two}} {
		isRight(t, w, f, false)
	}
	// Without Locals, without Stack.
	none := method{"static f ()V", 0, 0, "return\na: jump a\nreturn"}
	none.takes(t, "top | |\n-\n-", "top | |\ntop | |\nLA; | |", "top | |\nM! | |\n-")
	none.refuses(t, 1, api.ErrArg, "top | |\ntop | num |\n-")
	none.refuses(t, 2, api.ErrArg, "top | |\ntop | |\ntop | | num")
	// As many as there may be.
	most := method{"static f ()V", 64, 64, "return\na: jump a\nreturn"}
	places := strings.Repeat("num ", 64)
	first := "top | " + strings.Repeat("top ", 64) + "|\n"
	most.takes(t, first+"top | "+places+" | "+places+"\n-")
	most.refuses(t, 1, api.ErrArg, first+"top | "+places+" | "+places+" num\n-")
	most.refuses(t, 1, api.ErrArg, first+"top | "+places+" num | "+places+"\n-")
}

// P1101: the first frame that is not right is told, be it the first of all, or the last.
func TestTheFirstThatIsNotRight(t *testing.T) {
	m := method{"static f (I)V", 1, 1, "nop\nnop\nreturn"}
	const right, wrong, high = "top | num |\n", "top | nil nil |\n", "top | top |\n"
	m.takes(t, right+right+right)
	m.refuses(t, 0, api.ErrArg, wrong+right+right)
	m.refuses(t, 0, api.ErrArg, wrong+wrong+right)
	m.refuses(t, 1, api.ErrArg, right+wrong+right)
	m.refuses(t, 1, api.ErrArg, right+wrong+wrong)
	m.refuses(t, 2, api.ErrArg, right+right+wrong)
	// Ahead of what is wrong with instructions that stand ahead.
	m.refuses(t, 2, api.ErrArg, high+right+wrong)
	m.refuses(t, 2, api.ErrArg, right+"-\n"+wrong)
	m.refuses(t, 2, api.ErrArg, "-\n-\n"+wrong)
}
