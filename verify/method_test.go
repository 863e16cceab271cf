package verify_test

import (
	"testing"

	"keystone/api"
)

// The chapter's examples.
func TestExamples(t *testing.T) {
	tells(t, "static f ()I", 1, 0, `
		number 5
		give`, `
		top | | 
		top | | num`)
	refuses(t, "static f ()V", 64, 0, `
		again: number 5
		jump again`, api.ErrTyping)
	tells(t, "static f ()V", 2, 0, `
		jump over
		add
		over: return`, `
		top | |
		-
		top | |`)
	tells(t, "static f (I)V", 1, 2, `
		load 0
		zero number
		nil
		store 1
		jump both
		number: number 5
		store 1
		both: return`, `
		top | num top |
		top | num top | num
		top | num top |
		top | num top | nil
		top | num nil |
		top | num top |
		top | num top | num
		top | num top |`)
}

// P1001: a method that is not static begins with its own object; what each instruction leaves is told, one by one.
func TestFramesOneByOne(t *testing.T) {
	tells(t, "f (ILB;[I)LA;", 3, 5, `
		load 0
		load 2
		put A next LA;
		load 3
		load 1
		numget
		print
		new A
		dup
		init A <init> ()V
		store 4
		load 4
		give`, `
		top | LM; num LB; [I top |
		top | LM; num LB; [I top | LM;
		top | LM; num LB; [I top | LM; LB;
		top | LM; num LB; [I top |
		top | LM; num LB; [I top | [I
		top | LM; num LB; [I top | [I num
		top | LM; num LB; [I top | num
		top | LM; num LB; [I top |
		top | LM; num LB; [I top | A@13
		top | LM; num LB; [I top | A@13 A@13
		top | LM; num LB; [I top | LA;
		top | LM; num LB; [I LA; |
		top | LM; num LB; [I LA; | LA;`)
}

// P1001: whatever Step refuses has no typing.
func TestStepsThatCanNotBeDone(t *testing.T) {
	for _, s := range []string{
		"add\nreturn",                          // nothing to take
		"nil\nnumber 1\nadd\nreturn",           // a value of another type
		"number 1\ngive",                       // nothing is given by what is void
		"number 1\nnumber 2\nnumber 3\nreturn", // the Stack is too full
		"new A\nthrow",                         // not initialised
		"nil\nget A none I\npop\nreturn",       // no such field
		"nil\ncall A none ()V\nreturn",         // no such method
		"new E\npop\nreturn",                   // abstract
		"nil\nload 0\nput A next LA;\nreturn",  // nothing is known of the local
		"nop\nnop\npop\nreturn",                // not the first one
	} {
		refuses(t, "static f ()V", 2, 1, s, api.ErrTyping)
	}
	tells(t, "static f ()V", 2, 1, "nil\nstore 0\nload 0\nthrow\nadd\nreturn", `
		top | top |
		top | top | nil
		top | nil |
		top | nil | nil
		-
		-`)
}

// P1001: jumps ahead, of every kind, and both of their ways.
func TestJumpsAhead(t *testing.T) {
	tells(t, "static f (ILA;)I", 2, 2, `
		load 0
		minus a
		load 0
		load 0
		less a
		load 1
		isnil b
		load 1
		nil
		same b
		number 1
		give
		a: number 2
		give
		b: load 0
		give`, `
		top | num LA; |
		top | num LA; | num
		top | num LA; |
		top | num LA; | num
		top | num LA; | num num
		top | num LA; |
		top | num LA; | LA;
		top | num LA; |
		top | num LA; | LA;
		top | num LA; | LA; nil
		top | num LA; |
		top | num LA; | num
		top | num LA; |
		top | num LA; | num
		top | num LA; |
		top | num LA; | num`)
}

// P1001: a jump to what stands behind it goes there alone.
func TestJumpsToWhatIsNext(t *testing.T) {
	tells(t, "static f (I)V", 1, 1, `
		load 0
		zero next
		next: jump on
		on: return`, `
		top | num |
		top | num | num
		top | num |
		top | num |`)
	tells(t, "static f (I)I", 2, 1, `
		load 0
		load 0
		zero next
		next: jump on
		on: give`, `
		top | num |
		top | num | num
		top | num | num num
		top | num | num
		top | num | num`)
}

// P1001: what comes back raises what is known where it comes to, and behind it, till nothing rises.
func TestJumpsBack(t *testing.T) {
	tells(t, "static f (I)V", 1, 4, `
		nil
		store 1
		nil
		store 2
		nil
		store 3
		again: load 2
		store 3
		load 1
		store 2
		new B
		store 1
		load 0
		zero again
		return`, `
		top | num top top top |
		top | num top top top | nil
		top | num nil top top |
		top | num nil top top | nil
		top | num nil nil top |
		top | num nil nil top | nil
		top | num top top top |
		top | num top top top | top
		top | num top top top |
		top | num top top top | top
		top | num top top top |
		top | num top top top | B@17
		top | num B@17 top top |
		top | num B@17 top top | num
		top | num B@17 top top |`)
	tells(t, "static f (LD;LB;I)V", 1, 4, `
		again: load 0
		store 3
		load 1
		store 0
		load 2
		minus again
		return`, `
		top | LA; LB; num top |
		top | LA; LB; num top | LA;
		top | LA; LB; num LA; |
		top | LA; LB; num LA; | LB;
		top | LB; LB; num LA; |
		top | LB; LB; num LA; | num
		top | LB; LB; num LA; |`)
	// What was taken ahead of the rise may be refused behind it.
	refuses(t, "static f (LD;LB;I)V", 2, 3, `
		again: load 0
		get D x I
		print
		load 1
		store 0
		load 2
		minus again
		return`, api.ErrTyping)
	tells(t, "static f (LD;LB;I)V", 2, 3, `
		again: load 0
		get A x I
		minus again
		load 1
		store 0
		load 2
		minus again
		return`, `
		top | LA; LB; num |
		top | LA; LB; num | LA;
		top | LA; LB; num | num
		top | LA; LB; num |
		top | LA; LB; num | LB;
		top | LB; LB; num |
		top | LB; LB; num | num
		top | LB; LB; num |`)
	refuses(t, "static f (I)V", 2, 2, `
		number 1
		store 1
		again: load 1
		print
		nil
		store 1
		load 0
		minus again
		return`, api.ErrTyping)
	tells(t, "static f (I)V", 2, 2, `
		number 1
		store 1
		again: load 1
		print
		nil
		store 1
		return`, `
		top | num top |
		top | num top | num
		top | num num |
		top | num num | num
		top | num num |
		top | num num | nil
		top | num nil |`)
}

// P1001: the first instruction may be come back to: its frame is then above the method's first one.
func TestBackToTheBeginning(t *testing.T) {
	tells(t, "static f (I)V", 1, 1, `
		again: nil
		store 0
		jump again`, `
		top | top |
		top | top | nil
		top | nil |`)
	tells(t, "static f ()V", 0, 0, "again: jump again", "top | |")
}

// ways is code that does one thing or another one, and then goes on with both.
func ways(a, b, behind string) string {
	return "load 0\nzero other\n" + a + "\njump both\nother: " + b + "\nboth: " + behind
}

// P1001: ways that meet with equal depths: place by place the join.
func TestWaysThatMeet(t *testing.T) {
	for _, x := range []struct{ a, b, join string }{
		{"number 1", "number 2", "num"},
		{"nil", "nil", "nil"},
		{"number 1", "nil", "top"},
		{"nil", "load 1", "LB;"},
		{"load 1", "load 2", "LA;"},
		{"load 2", "load 1", "LA;"},
		{"load 1", "load 1", "LB;"},
		{"load 3", "load 3", "LF;"},
		{"load 3", "load 4", "LObject;"}, // a class and its face
		{"load 4", "load 5", "LObject;"}, // two interfaces
		{"load 6", "load 7", "LObject;"}, // two arrays
		{"load 6", "nil", "[I"},
		{"load 6", "number 1", "top"},
		{"load 1", "load 6", "LObject;"},
		{"new A", "nil", "top"},
		{"new A", "new A", "top"}, // made at two places
		{"new A", "load 1", "top"},
	} {
		w := alone(t, "static f (ILB;LD;LF;LI;LJ;[I[LA;)V", 1, 8, ways(x.a, x.b, "store 0\nreturn"))
		got, e := methodOf(w)
		if e != api.OK || text(got[len(got)-1]) != "top | "+x.join+" LB; LD; LF; LI; LJ; [I [LA; | " {
			t.Errorf("%s, %s: %v, %v; wanted %s", x.a, x.b, texts(got), e, x.join)
		}
	}
	// One that was made ahead of both ways is still the same one.
	w := alone(t, "static f (I)V", 2, 1, "new A\n"+ways("nop", "nop", "init A <init> ()V\nreturn"))
	got, e := methodOf(w)
	if e != api.OK || text(got[len(got)-2]) != "top | num | A@0" {
		t.Errorf("%v, %v", texts(got), e)
	}
	// What both know of the Stack is what may be done behind.
	refuses(t, "static f (I)V", 1, 1, ways("number 1", "nil", "print\nreturn"), api.ErrTyping)
	refuses(t, "static f (ILF;LI;)V", 1, 3, ways("load 1", "load 2", "face I i ()V\nreturn"), api.ErrTyping)
}

// P1001: ways that meet with unlike depths, ahead, back, and at a handler's beginning.
func TestUnlikeDepths(t *testing.T) {
	refuses(t, "static f (I)V", 2, 1, ways("nil", "nop", "return"), api.ErrTyping)
	refuses(t, "static f (I)V", 2, 1, ways("nop", "nil", "return"), api.ErrTyping)
	refuses(t, "static f (I)V", 4, 1, ways("nil", "nil\nnil", "return"), api.ErrTyping)
	refuses(t, "static f (I)V", 4, 1, "nil\nagain: pop\njump again", api.ErrTyping)
	refuses(t, "static f (I)V", 4, 1, "again: nil\nload 0\nzero again\nreturn", api.ErrTyping)
	// A handler begins with one value, but the code ahead of it runs into it with none.
	refuses(t, "static f (I)V", 4, 1, "a: nop\nb: return\ncatch a b b X", api.ErrTyping)
	refuses(t, "static f (I)V", 4, 1, "a: nil\nnil\nb: return\ncatch a b b X", api.ErrTyping)
	tells(t, "static f (I)V", 4, 1, "a: nil\nb: return\ncatch a b b X", "top | num |\ntop | num | LX;")
}

// P1001: what nothing reaches is told as Frame{}, whatever stands there; what it would lead to does not count.
func TestCodeThatNothingReaches(t *testing.T) {
	tells(t, "static f ()V", 1, 1, `
		return
		add
		new E
		load 0
		number 1
		store 0
		jump a
		a: pop
		pop
		give
		nop`, `
		top | top |
		-
		-
		-
		-
		-
		-
		-
		-
		-
		-`)
	// A way from there comes nowhere: the local is still a number.
	tells(t, "static f (I)V", 1, 1, `
		jump on
		nil
		store 0
		on: load 0
		print
		return`, `
		top | num |
		-
		-
		top | num |
		top | num | num
		top | num |`)
	tells(t, "static f ()V", 2, 0, `
		nil
		throw
		round: number 1
		jump round`, `
		top | |
		top | | nil
		-
		-`)
}

// P1001: the code's end is run over: by the last instruction, by a jump's other way; not, if nothing reaches it.
func TestTheEndIsRunOver(t *testing.T) {
	for _, s := range []string{
		"nop",
		"nop\nnop",
		"number 1\nprint",
		"again: load 0\nzero again",
		"again: load 0\nload 0\nless again",
		"jump on\nback: return\non: load 0\nzero back",
		"a: return\nb: nop\ncatch a b b X",
	} {
		refuses(t, "static f (I)V", 2, 1, s, api.ErrTyping)
	}
	tells(t, "static f (I)V", 2, 1, "return\nnop", "top | num |\n-")
	tells(t, "static f (I)V", 2, 1, "again: jump again\nload 0\nzero again", "top | num |\n-\n-")
	tells(t, "static f (I)V", 2, 1, "nop\nagain: jump again", "top | num |\ntop | num |")
}

// P1001: a Stack that grows round and round, however much room there is; one that falls; one that stays.
func TestTheStackRoundAndRound(t *testing.T) {
	for _, stack := range []int{1, 2, 63, 64} {
		refuses(t, "static f ()V", stack, 0, "again: number 1\njump again", api.ErrTyping)
		refuses(t, "static f ()V", stack, 0, "nil\nagain: dup\njump again", api.ErrTyping)
		refuses(t, "static f ()V", stack, 0, "nil\nagain: pop\njump again", api.ErrTyping)
		refuses(t, "static f ()V", stack, 1, "again: new A\njump again", api.ErrTyping)
	}
	refuses(t, "static f ()V", 0, 0, "nil\npop\nreturn", api.ErrTyping)
	tells(t, "static f ()V", 1, 0, "again: number 1\npop\njump again", "top | |\ntop | | num\ntop | |")
	tells(t, "static f ()V", 1, 0, "nil\nagain: pop\nnil\njump again", "top | |\ntop | | nil\ntop | |\ntop | | nil")
}

// P1001: an object that a loop makes again is no more the one that was made ahead.
func TestMadeAgain(t *testing.T) {
	tells(t, "static f (I)V", 2, 2, `
		again: new A
		store 1
		load 0
		zero again
		load 1
		init A <init> ()V
		return`, `
		top | num top |
		top | num top | A@0
		top | num A@0 |
		top | num A@0 | num
		top | num A@0 |
		top | num A@0 | A@0
		top | num LA; |`)
	refuses(t, "static f (I)V", 2, 2, `
		nil
		store 1
		again: load 1
		new A
		store 1
		init A <init> ()V
		jump again`, api.ErrTyping)
	refuses(t, "static f (I)V", 2, 3, `
		again: load 1
		store 2
		new A
		store 1
		load 0
		zero again
		load 2
		init A <init> ()V
		return`, api.ErrTyping)
}
