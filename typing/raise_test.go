package typing_test

import (
	"strings"
	"testing"

	"keystone/api"
	"keystone/verify"
)

// nothing are so many frames none of which is reached.
func nothing(n int) string { return strings.Repeat("-\n", n) }

// P1104: of frames none of which is reached the least typing: what verify.Method tells.
func TestRaiseNothing(t *testing.T) {
	five.raises(t, nothing(2), "top | |\ntop | | num")
	for _, x := range []struct {
		method
		n int
	}{
		{method{"static f (I)V", 1, 2, "load 0\nzero b\nnil\nstore 1\njump c\nb: number 5\nstore 1\nc: return"}, 8},
		{method{"static f ()V", 2, 0, "jump c\nadd\nc: return"}, 3},
		{method{"static f (LD;LB;I)V", 1, 4, "a: load 0\nstore 3\nload 1\nstore 0\nload 2\nminus a\nreturn"}, 7},
		{method{"static f (II)I", 2, 2, "a: load 0\nload 1\ndiv\nb: give\nat: pop\nnumber 5\ngive\ncatch a b at DivError"}, 7},
		{method{"<init> ()V", 1, 1, "a: load 0\ninit A <init> ()V\nb: return\nat: pop\njump a\ncatch a b at X"}, 5},
		{method{"static f ()V", 2, 1, "new A\ndup\nstore 0\na: nop\ninit A <init> ()V\nload 0\nb: pop\nreturn\nat: pop\nload 0\npop\nreturn\ncatch a b at Y"}, 12},
	} {
		least, _ := verify.Method(x.world(t), "M", 0)
		if len(least) != x.n {
			t.Errorf("%s: %d frames", x.code, len(least))
		}
		x.raises(t, nothing(x.n), texts(least))
	}
}

// P1103: one way, straight on: what is handed in on its middle is raised from there on.
func TestRaiseOneWay(t *testing.T) {
	m := method{"static f (ILD;)V", 2, 3, "load 1\nstore 2\nnop\nload 2\npop\nreturn"}
	least := "top | num LD; top |\ntop | num LD; top | LD;\ntop | num LD; LD; |\ntop | num LD; LD; |\ntop | num LD; LD; | LD;\ntop | num LD; LD; |"
	m.raises(t, nothing(6), least)
	// From the first one on.
	m.raises(t, "top | num LB; nil |\n"+nothing(5), "top | num LA; top |\ntop | num LA; top | LA;\ntop | num LA; LA; |\ntop | num LA; LA; |\ntop | num LA; LA; | LA;\ntop | num LA; LA; |")
	// What is below already raises nothing.
	m.raises(t, "-\ntop | num nil LI; | nil\n"+nothing(4), least)
	m.raises(t, "-\n-\ntop | num LD; nil |\n"+nothing(3), least)
	// On the middle, and at the end; one place, all places.
	m.raises(t, "-\n-\n-\ntop | num LD; LB; |\n-\n-", "top | num LD; top |\ntop | num LD; top | LD;\ntop | num LD; LD; |\ntop | num LD; LA; |\ntop | num LD; LA; | LA;\ntop | num LD; LA; |")
	m.raises(t, nothing(5)+"M! | nil num [I |", "top | num LD; top |\ntop | num LD; top | LD;\ntop | num LD; LD; |\ntop | num LD; LD; |\ntop | num LD; LD; | LD;\ntop | top top LObject; |")
	// Two of them: what comes from the first one meets the second one.
	m.raises(t, "-\ntop | num LC; top | LC;\n-\n-\ntop | nil LD; LD; | LB;\n-", "top | num LD; top |\ntop | num LC; top | LC;\ntop | num LC; LC; |\ntop | num LC; LC; |\ntop | top LC; LC; | LA;\ntop | top LC; LC; |")
}

// P1103: several ways that meet: what is raised on one of them rises behind where they do.
func TestRaiseSeveralWays(t *testing.T) {
	m := method{"static f (ILD;LD;)V", 1, 3, "load 0\nzero b\nnop\njump c\nb: nop\nnop\nc: return"}
	const ahead = "top | num LD; LD; |\ntop | num LD; LD; | num\n"
	const plain = "top | num LD; LD; |\n"
	m.raises(t, nothing(7), ahead+strings.Repeat(plain, 5))
	m.raises(t, nothing(3)+"top | num LB; LD; |\n"+nothing(3), ahead+plain+"top | num LA; LD; |\n"+plain+plain+"top | num LA; LD; |")
	m.raises(t, nothing(4)+"top | num LD; LC; |\n"+nothing(2), ahead+plain+plain+strings.Repeat("top | num LD; LC; |\n", 3))
	m.raises(t, nothing(3)+"top | num LB; LD; |\n-\ntop | nil LD; LC; |\n-", ahead+plain+"top | num LA; LD; |\n"+plain+"top | top LD; LC; |\ntop | top LA; LC; |")
	// Ahead of where they part both rise.
	high := "top | num LA; LD; |\n"
	m.raises(t, "-\ntop | num LB; LD; | num\n"+nothing(5), plain+"top | num LA; LD; | num\n"+strings.Repeat(high, 5))
	// On where they meet nothing else does.
	m.raises(t, nothing(6)+"top | num num LD; |", ahead+strings.Repeat(plain, 4)+"top | num top LD; |")
}

// P1103: round a loop: what rises at one instruction comes back to the first one, and on to all.
func TestRaiseRoundALoop(t *testing.T) {
	m := method{"static f (ILD;LD;LD;)V", 1, 4, "a: load 2\nstore 1\nload 3\nstore 2\nload 0\nzero a\nreturn"}
	row := func(locals string) string {
		return strings.ReplaceAll("top | num X |\ntop | num X | LD;\ntop | num X |\ntop | num X | LD;\ntop | num X |\ntop | num X | num\ntop | num X |", "X", locals)
	}
	m.raises(t, nothing(7), row("LD; LD; LD;"))
	// The last local rises: it comes to the second one, then to the first one.
	m.raises(t, nothing(6)+"top | num LD; LD; LB; |", row("LD; LD; LD;")[:len(row("LD; LD; LD;"))-len("top | num LD; LD; LD; |")]+"top | num LD; LD; LA; |")
	m.raises(t, nothing(4)+"top | num LD; LD; LB; |\n-\n-", `
		top | num LA; LA; LA; |
		top | num LA; LA; LA; | LA;
		top | num LA; LA; LA; |
		top | num LA; LA; LA; | LA;
		top | num LA; LA; LA; |
		top | num LA; LA; LA; | num
		top | num LA; LA; LA; |`)
	// One that is stored over at once rises no further than to there.
	m.raises(t, "top | num nil LD; LD; |\n-\n-\n-\n-\n-\n-", row("LD; LD; LD;"))
	m.raises(t, "-\ntop | num num LD; LD; | nil\n-\n-\n-\n-\n-", strings.Replace(row("LD; LD; LD;"), "top | num LD; LD; LD; | LD;", "top | num top LD; LD; | LD;", 1))
	// Back to the beginning, by one jump alone.
	back := method{"static f (I)V", 1, 1, "a: nop\njump a"}
	back.raises(t, "-\ntop | nil |", "top | top |\ntop | top |")
	back.raises(t, "top | nil |\n-", "top | top |\ntop | top |")
	method{"static f (I)V", 1, 1, "a: jump a"}.raises(t, "top | LA; |", "top | top |")
}

// P1103: into a handler: what rises ahead of an instruction that is covered rises where the handler begins.
func TestRaiseIntoAHandler(t *testing.T) {
	m := method{"static f (ILD;)V", 1, 2, "nop\na: nop\nnop\nb: nop\nreturn\nat: pop\nreturn\ncatch a b at Y"}
	const plain, high = "top | num LD; |\n", "top | num LA; |\n"
	m.raises(t, nothing(7), strings.Repeat(plain, 5)+"top | num LD; | LY;\n"+plain)
	m.raises(t, nothing(2)+"top | num LB; |\n"+nothing(4), plain+plain+strings.Repeat(high, 3)+"top | num LA; | LY;\n"+high)
	// The last one that is covered counts, the one behind it does not.
	m.raises(t, nothing(3)+"top | num LB; |\n"+nothing(3), plain+plain+plain+high+high+"top | num LD; | LY;\n"+plain)
	// At its beginning: what was caught is above what is handed in, or the other way about.
	m.raises(t, nothing(5)+"top | num LB; | LX;\n-", strings.Repeat(plain, 5)+"top | num LA; | LX;\n"+high)
	m.raises(t, nothing(5)+"top | num nil | nil\n-", strings.Repeat(plain, 5)+"top | num LD; | LY;\n"+plain)
	m.raises(t, nothing(5)+"top | num nil | LDivError;\n-", strings.Repeat(plain, 5)+"top | num LD; | LThrowable;\n"+plain)
	// From a handler back to where it covers.
	back := method{"static f (ILD;)V", 1, 2, "a: nop\nb: return\nat: pop\nnop\njump a\ncatch a b at Y"}
	back.raises(t, nothing(3)+"top | num LB; |\n-", high+high+"top | num LA; | LY;\n"+high+high)
	// A handler that covers itself.
	own := method{"static f (ILD;)V", 1, 2, "a: nop\nreturn\nat: pop\nreturn\nend:\ncatch a end at Y"}
	own.raises(t, nothing(3)+"top | num LB; |", plain+plain+"top | num LA; | LY;\n"+high)
	// What is stored in between.
	stored := method{"static f (ILD;)V", 1, 2, "a: nil\nstore 1\nnop\nb: return\nat: pop\nreturn\ncatch a b at Y"}
	stored.raises(t, "-\n-\ntop | num LB; |\n-\n-\n-", "top | num LD; |\ntop | num LD; | nil\ntop | num LB; |\ntop | num LB; |\ntop | num LA; | LY;\ntop | num LA; |")
}

// P1103: what nothing comes to is raised, too, and comes to what is reached; its handlers count.
func TestRaiseWhatNothingComesTo(t *testing.T) {
	m := method{"static f ()V", 1, 1, "jump c\nb: store 0\nc: return"}
	m.raises(t, "-\ntop | num | num\n-", "top | top |\ntop | num | num\ntop | top |")
	m.raises(t, "-\ntop | num | num\ntop | nil |", "top | top |\ntop | num | num\ntop | top |")
	n := method{"static f (LD;)V", 1, 1, "jump c\nb: load 0\nstore 0\nc: return"}
	n.raises(t, "-\ntop | LB; |\n-\n-", "top | LD; |\ntop | LB; |\ntop | LB; | LB;\ntop | LA; |")
	n.raises(t, "-\n-\ntop | nil | LB;\n-", "top | LD; |\n-\ntop | nil | LB;\ntop | LA; |")
	n.raises(t, "-\ntop | nil |\ntop | num | LB;\n-", "top | LD; |\ntop | nil |\ntop | top | LB;\ntop | LA; |")
	// It comes to itself alone.
	method{"static f (LD;)V", 1, 1, "return\na: nil\nstore 0\njump a\nreturn"}.raises(t, "-\n-\n-\ntop | num |\n-", "top | LD; |\ntop | top |\ntop | top | nil\ntop | top |\n-")
	// Its handler is reached then.
	caught := method{"static f (LD;)V", 1, 1, "return\na: nop\nb: return\nat: pop\nreturn\ncatch a b at Y"}
	caught.raises(t, "-\n-\ntop | LB; |\n-\n-", "top | LD; |\n-\ntop | LB; |\n-\n-")
	caught.raises(t, "-\ntop | LB; |\n-\n-\n-", "top | LD; |\ntop | LB; |\ntop | LB; |\ntop | LB; | LY;\ntop | LB; |")
	// An object that is made there.
	made := method{"static f ()V", 1, 1, "return\na: new A\nstore 0\njump a"}
	made.raises(t, "-\ntop | A@1 |\n-\n-", "top | top |\ntop | A@1 |\ntop | top | A@1\ntop | A@1 |")
	made.raises(t, "-\n-\ntop | A@1 | A@1\n-", "top | top |\ntop | A@1 |\ntop | top | A@1\ntop | A@1 |")
	made.raises(t, "-\n-\ntop | A@1 | A@2\n-", "top | top |\ntop | top |\ntop | top | top\ntop | top |")
}

// P1103: ErrTyping, where no typing is above: a step that can't be done, be it higher up than what was handed in; unlike depths; the code's end; no room for what is caught.
func TestRaiseWhereNoTypingIsAbove(t *testing.T) {
	for _, x := range []struct {
		method
		rows []string
	}{
		{five, []string{"-\ntop | | top", "-\ntop | | nil", "-\ntop | |", "top | | num\n-", "-\nM! | | LA;"}},
		{method{"static f (I)V", 2, 1, "load 0\nprint\nreturn"}, []string{
			"top | nil |\n-\n-",     // joined: no number is loaded
			"-\ntop | num | nil\n-", // nor is one printed
			"-\ntop | num |\n-",     // of another depth than what comes there
			"-\n-\ntop | num | num", // likewise, behind it
			"top | num | num\n-\n-", // likewise, at the beginning
			"-\n-\ntop | num | nil", // nor does what it holds matter
			"top | top | num num\n-\n-",
		}},
		{method{"static f (I)V", 2, 1, "return\nadd\npop\nreturn"}, []string{
			"-\ntop | num | num\n-\n-", "-\ntop | num | num nil\n-\n-", "-\n-\ntop | num |\n-",
			"-\ntop | num | num num\ntop | num |\n-", "-\ntop | num | num num\n-\ntop | num | num",
		}},
		{method{"static f (I)V", 2, 1, "return\nnop"}, []string{"-\ntop | num |", "-\ntop | num | nil"}},
		{method{"static f (I)V", 0, 1, "return\na: nop\nb: return\nat: return\ncatch a b at X"}, []string{"-\ntop | num |\n-\n-"}},
		{method{"static f (I)V", 1, 1, "a: nop\nb: return\nat: return\ncatch a b at X"}, []string{"-\n-\ntop | num |", "-\ntop | num | num\n-"}},
		// It rises round a loop, till it is too high.
		{method{"static f (ILD;LD;)V", 1, 3, "a: load 1\nget D x I\nprint\nload 2\nstore 1\nload 0\nzero a\nreturn"}, []string{
			"-\n-\n-\n-\ntop | num LD; LD; | LB;\n-\n-\n-", "-\n-\n-\n-\n-\n-\ntop | num nil LB; | num\n-", "top | num LC; LD; |\n-\n-\n-\n-\n-\n-\n-",
		}},
		// By a handler.
		{method{"static f (LD;)V", 1, 1, "a: nop\nb: return\nat: pop\nload 0\nget D x I\nprint\nreturn\ncatch a b at X"}, []string{"top | LC; |\n" + nothing(6), nothing(3) + "top | LB; |\n-\n-\n-", nothing(4) + "top | nil | LB;\n-\n-", nothing(5) + "top | nil | nil\n-"}},
		// Of a constructor: nobody knows that it is done.
		{method{"<init> ()V", 1, 1, "load 0\ninit A <init> ()V\nreturn"}, []string{"LM; | M! |\n-\n-", "-\nM! | M! | LM;\n-", "-\n-\nM! | LM; |", "top | M! |\n-\n-", "-\n-\ntop | LM; |"}},
		// There is none at all.
		{method{"static f ()V", 1, 0, "pop\nreturn"}, []string{nothing(2), "top | |\n-", "-\ntop | |"}},
		{method{"static f ()V", 64, 0, "a: nil\njump a"}, []string{nothing(2), "top | |\n-", "-\ntop | | nil"}},
	} {
		for _, s := range x.rows {
			x.cannotRaise(t, s)
		}
	}
	// What is just low enough.
	m := method{"static f (ILD;LD;)V", 1, 3, "a: load 1\nget A x I\nprint\nload 2\nstore 1\nload 0\nzero a\nreturn"}
	m.raises(t, "-\n-\n-\n-\ntop | num LD; LD; | LB;\n-\n-\n-", `
		top | num LA; LD; |
		top | num LA; LD; | LA;
		top | num LA; LD; | num
		top | num LA; LD; |
		top | num LA; LD; | LA;
		top | num LA; LD; |
		top | num LA; LD; | num
		top | num LA; LD; |`)
	m.cannotRaise(t, "-\n-\n-\n-\ntop | num LD; LD; | LF;\n-\n-\n-")
}

// P1103: a constructor's Self is raised like the rest.
func TestRaiseSelf(t *testing.T) {
	m := method{"<init> ()V", 1, 1, "load 0\ninit A <init> ()V\nnop\nreturn"}
	m.raises(t, nothing(4), "M! | M! |\nM! | M! | M!\nLM; | LM; |\nLM; | LM; |")
	m.raises(t, "-\n-\nLB; | LM; |\n-", "M! | M! |\nM! | M! | M!\nLA; | LM; |\nLA; | LM; |")
	m.raises(t, "-\n-\n[I | nil |\n-", "M! | M! |\nM! | M! | M!\nLObject; | LM; |\nLObject; | LM; |")
	m.raises(t, "-\nM! | top | M!\n-\n-", "M! | M! |\nM! | top | M!\nLM; | top |\nLM; | top |")
	loop := method{"<init> ()V", 1, 1, "a: nop\njump a"}
	loop.raises(t, "-\nLM; | M! |", "top | M! |\ntop | M! |")
	loop.raises(t, "A! | A! |\n-", "top | top |\ntop | top |")
}

// P1103: ErrArg ahead of ErrTyping, though there is no typing at all; ErrSuper and ErrMember come first (their tests are Check's).
func TestRaiseOfFramesThatAreNotRight(t *testing.T) {
	for _, code := range []string{"nop\nreturn", "add\nreturn", "nop\nnop"} {
		w := method{"static f (I)V", 1, 1, code}.world(t)
		right := of("top | num |")
		for _, l := range [][]api.Frame{nil, {right}, {right, right, right}, {right, {Self: num}}, {{Locals: row("num")}, right}, {right, of("top | num num |")}, {right, of("top | num | num num")}, {of("top | LNone; |"), right}, {{}, {Self: api.VType{At: 1}}}} {
			if up, e := raise(w, l); e != api.ErrArg || len(up) > 0 {
				t.Errorf("%s: %v: %v, %v", code, l, up, e)
			}
		}
		want := api.ErrTyping
		if code == "nop\nreturn" {
			want = api.OK
		}
		if up, e := raise(w, []api.Frame{right, right}); e != want {
			t.Errorf("%s: %v, %v", code, up, e)
		}
	}
}
