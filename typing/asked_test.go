package typing_test

import (
	"testing"

	"keystone/api"
)

// P1101: ErrTyping at 0, if the method's first frame is not below: ahead of whatever is asked of the first instruction.
func TestTheFirstFrame(t *testing.T) {
	for _, code := range []string{"nop\nreturn", "add\nreturn"} {
		m := method{"static f (ILD;)V", 2, 2, code}
		for _, first := range []string{"-", "top | nil LD; |", "top | num LB; |", "top | num nil |", "top | num num |", "top | num LI; |", "top | num [LD; |", "top | num LD; | num", "top | num LD; | num num", "M! | num LD; |", "LM; | num LD; |"} {
			m.refuses(t, 0, api.ErrTyping, first+"\n-")
			m.refuses(t, 0, api.ErrTyping, first+"\ntop | top top |")
		}
	}
	m := method{"static f (ILD;)V", 2, 2, "nop\nreturn"}
	for _, first := range []string{"top | num LD; |", "top | num LC; |", "top | top LA; |", "top | num LObject; |", "top | top top |"} {
		m.takes(t, first+"\ntop | top top |")
	}
	own := method{"f ()V", 2, 2, "nop\nreturn"}
	own.takes(t, "top | LM; top |\ntop | LM; top |", "top | LA; top |\ntop | LA; top |")
	own.refuses(t, 0, api.ErrTyping, "top | M! top |\n-")
	own.refuses(t, 0, api.ErrTyping, "top | LM; num |\n-")
	made := method{"<init> ()V", 2, 2, "jump a\na: jump a"}
	made.takes(t, "M! | M! top |\nM! | M! top |", "top | M! top |\ntop | top top |", "M! | top top |\ntop | top top |")
	for _, first := range []string{"LM; | M! top |", "A! | M! top |", "M! | LM; top |", "M! | A! top |", "M! | M! nil |"} {
		made.refuses(t, 0, api.ErrTyping, first+"\ntop | top top |")
	}
}

// P1101: Step's error, with the number of the first instruction that has one; of those that are not reached nothing is asked.
func TestStepsThatCanNotBeDone(t *testing.T) {
	for _, x := range []struct {
		code, stack string
		err         api.Errno
	}{
		{"add", "", api.ErrUnder},
		{"add", "num", api.ErrUnder},
		{"add", "num nil", api.ErrWrong},
		{"add", "num top", api.ErrWrong},
		{"add", "A@1 num", api.ErrWrong},
		{"isnil end", "A@1", api.ErrInit},
		{"isnil end", "num", api.ErrWrong},
		{"isnil end", "top", api.ErrWrong},
		{"throw", "LObject;", api.ErrWrong},
		{"throw", "M!", api.ErrInit},
		{"nil", "num num", api.ErrOver},
		{"dup", "nil nil", api.ErrOver},
		{"get D x I", "LC;", api.ErrWrong},
		{"get A none I", "LA;", api.ErrMember},
		{"call A none ()V", "LA;", api.ErrMember},
		{"new E", "", api.ErrFace},
		{"init A <init> ()V", "B@1", api.ErrInit},
		{"give", "num", api.ErrWrong},
	} {
		m := method{"static f (I)V", 2, 1, "jump end\n" + x.code + "\nend: return"}
		m.refuses(t, 1, x.err, "top | num |\ntop | num | "+x.stack+"\ntop | num |")
		m.takes(t, "top | num |\n-\ntop | num |")
		// Ahead of what comes out of it, of what stands behind, of handlers.
		m.code = "a: jump end\n" + x.code + "\nend: return\nat: add\ncatch a at at X"
		m.refuses(t, 0, api.ErrTyping, "top | num |\ntop | num | "+x.stack+"\ntop | num |\n-")
		m.code = "jump end\na: " + x.code + "\nend: return\nat: add\ncatch a end at X"
		m.refuses(t, 1, x.err, "top | num |\ntop | num | "+x.stack+"\ntop | num |\ntop | num |")
	}
	m := method{"static f (I)V", 2, 1, "return\npop\nadd\npop\nreturn"}
	m.refuses(t, 2, api.ErrUnder, "top | num |\n-\ntop | num | num\ntop | num |\n-")
	m.refuses(t, 3, api.ErrUnder, "top | num |\n-\n-\ntop | num |\ntop | num |")
	m.refuses(t, 1, api.ErrUnder, "top | num |\ntop | num |\ntop | num |\ntop | num |\n-")
	m.refuses(t, 2, api.ErrWrong, "top | num |\n-\ntop | num | nil nil\n-\n-")
	// Of a constructor: ErrInit of return.
	made := method{"<init> ()V", 1, 1, "a: jump a\nreturn"}
	made.refuses(t, 1, api.ErrInit, "M! | M! |\nM! | M! |")
	made.refuses(t, 1, api.ErrInit, "M! | M! |\ntop | LM; |")
	made.takes(t, "M! | M! |\nLM; | M! |", "M! | M! |\nLA; | top |", "M! | M! |\n[I | top |")
}

// P1101: ErrEnd: no instruction begins where one goes on; of those that are reached alone, behind the step's error, place by place.
func TestNoInstructionBeginsThere(t *testing.T) {
	m := method{"static f (I)V", 1, 1, "nop\nnop"}
	m.refuses(t, 1, api.ErrEnd, "top | num |\ntop | num |")
	m.refuses(t, 0, api.ErrTyping, "top | num |\n-")
	method{"static f (I)V", 1, 1, "nop"}.refuses(t, 0, api.ErrEnd, "top | num |")
	dead := method{"static f (I)V", 1, 1, "return\npop"}
	dead.takes(t, "top | num |\n-")
	dead.refuses(t, 1, api.ErrUnder, "top | num |\ntop | num |")
	dead.refuses(t, 1, api.ErrEnd, "top | num |\ntop | num | num")
	// The place behind it is asked ahead of where it jumps to, and of its handlers.
	branch := method{"static f (I)V", 1, 1, "a: load 0\nzero a"}
	branch.refuses(t, 1, api.ErrEnd, "top | num |\ntop | num | num")
	branch.refuses(t, 1, api.ErrEnd, "top | num |\ntop | top | num")
	branch.refuses(t, 0, api.ErrTyping, "top | top |\ntop | num | num")
	method{"static f (I)V", 1, 1, "return\na: nop\nend:\ncatch a end a X"}.refuses(t, 1, api.ErrEnd, "top | num |\ntop | num |")
	method{"static f (I)V", 0, 1, "return\na: nop\nend:\ncatch a end a X"}.refuses(t, 1, api.ErrEnd, "top | num |\ntop | num |")
	for _, last := range []string{"jump a", "return"} {
		method{"static f (I)V", 1, 1, "a: " + last}.takes(t, "top | num |")
	}
	method{"static f (I)V", 1, 1, "a: load 0\nzero a\njump a"}.takes(t, "top | num |\ntop | num | num\ntop | num |")
}

// P1101: ErrTyping: what comes out is not below the frame of where it goes on, in each place of it.
func TestResultsThatAreNotBelow(t *testing.T) {
	m := method{"static f (ILD;)V", 2, 2, "nil\njump b\nb: jump b"}
	const first, second = "top | num LD; |\n", "top | num LD; | nil\n"
	m.takes(t, first+second+second, first+second+"top | top LA; | LB;", first+"top | num LD; | LB;\ntop | num LD; | LA;")
	for _, s := range []string{"-", "top | num LD; |", "top | num LD; | nil nil", "top | nil LD; | nil", "top | num LB; | nil", "top | num nil | nil", "top | num LD; | num", "top | num LD; | A@0", "M! | num LD; | nil", "LA; | num LD; | nil"} {
		m.refuses(t, 1, api.ErrTyping, first+second+s)
		m.refuses(t, 0, api.ErrTyping, first+s+"\n"+second)
	}
	// Both places of one that jumps.
	branch := method{"static f (I)V", 1, 2, "load 0\nzero c\nb: jump b\nc: jump c"}
	const ahead = "top | num top |\ntop | num top | num\n"
	branch.takes(t, ahead+"top | num top |\ntop | num top |", ahead+"top | top top |\ntop | num top |", ahead+"top | num top |\ntop | top top |")
	for _, s := range []string{"-", "top | nil top |", "top | num num |", "top | num top | num", "LA; | num top |"} {
		branch.refuses(t, 1, api.ErrTyping, ahead+"top | num top |\n"+s)
		branch.refuses(t, 1, api.ErrTyping, ahead+s+"\ntop | num top |")
		branch.refuses(t, 1, api.ErrTyping, ahead+s+"\n"+s)
	}
	// The first one of several; those that stand behind what jumps over them are asked in their order.
	rows := method{"static f (I)V", 1, 1, "jump c\nb: jump c\nc: return"}
	rows.refuses(t, 0, api.ErrTyping, "top | num |\ntop | nil |\ntop | nil |")
	rows.refuses(t, 1, api.ErrTyping, "top | num |\ntop | nil |\ntop | num |")
	rows.takes(t, "top | num |\ntop | nil |\ntop | top |", "top | num |\n-\ntop | num |")
	rows.refuses(t, 0, api.ErrTyping, "top | num |\ntop | num |\n-")
	// Back to the beginning.
	back := method{"static f (I)V", 1, 1, "a: nil\nstore 0\njump a"}
	back.refuses(t, 2, api.ErrTyping, "top | num |\ntop | num | nil\ntop | nil |")
	back.refuses(t, 1, api.ErrTyping, "top | top |\ntop | top | nil\ntop | LA; | nil")
	back.takes(t, "top | top |\ntop | top | nil\ntop | nil |", "top | top |\ntop | top | LA;\ntop | LObject; |")
}

// P1101: of each handler that covers an instruction what it begins with is below the frame there: the Locals ahead of the instruction, not behind it, and what was caught alone.
func TestWhatHandlersBeginWith(t *testing.T) {
	m := method{"static f (I)V", 2, 1, "a: nil\nb: store 0\nc: return\nat: jump at\nend:\n"}
	const ahead = "top | num |\ntop | num | nil\ntop | nil |\n"
	for _, x := range []struct {
		handler string
		at      int // the first instruction that it covers whose Locals it does not fit
	}{{"catch a b at Y", -1}, {"catch a c at Y", -1}, {"catch b c at Y", -1}, {"catch a at at Y", 2}, {"catch c at at Y", 2}, {"catch b end at Y", 2}} {
		m := m
		m.code += x.handler
		if x.at < 0 {
			m.takes(t, ahead+"top | num | LY;", ahead+"top | num | LX;", ahead+"top | top | LThrowable;", ahead+"top | num | LObject;", ahead+"top | num | top")
		} else {
			m.refuses(t, x.at, api.ErrTyping, ahead+"top | num | LY;")
		}
	}
	m.code += "catch a c at Y"
	for _, s := range []string{"-", "top | num |", "top | num | nil", "top | num | num", "top | num | LDivError;", "top | num | LM;", "top | num | X@0", "top | num | LY; LY;", "top | num | nil LY;", "top | nil | LY;", "M! | num | LY;", "LM; | num | LY;"} {
		m.refuses(t, 0, api.ErrTyping, ahead+s)
	}
	m.code += "\ncatch b c at X"
	m.refuses(t, 1, api.ErrTyping, ahead+"top | num | LY;")
	m.takes(t, ahead+"top | num | LX;")
	// An instruction that nothing comes to leads to no handler.
	dead := method{"static f (I)V", 2, 1, "return\na: nil\nb: return\nat: jump at\ncatch a b at Y"}
	dead.takes(t, "top | num |\n-\n-\n-", "top | num |\n-\n-\ntop | nil |", "top | num |\n-\ntop | num | nil\ntop | nil |", "top | num |\ntop | nil |\ntop | nil | nil\ntop | nil | LY;")
	dead.refuses(t, 1, api.ErrTyping, "top | num |\ntop | nil |\ntop | nil | nil\ntop | num | LY;")
	dead.refuses(t, 1, api.ErrTyping, "top | num |\ntop | nil |\ntop | nil | nil\n-")
	// Self of a constructor counts.
	made := method{"<init> ()V", 1, 1, "a: load 0\nb: init A <init> ()V\nc: return\nat: jump at\nend:\n"}
	const made3 = "M! | M! |\nM! | M! | M!\nLM; | LM; |\n"
	made.code += "catch a c at X"
	made.takes(t, made3+"M! | M! | LX;", made3+"top | top | LX;")
	made.refuses(t, 0, api.ErrTyping, made3+"LM; | top | LX;")
	made.code += "\ncatch c at at X"
	made.takes(t, made3+"top | top | LX;")
	made.refuses(t, 2, api.ErrTyping, made3+"M! | top | LX;")
}

// P1101: ErrOver, if the method has no room for what is caught: behind what is asked of the places, ahead of what is asked of the handler's frame; only where the instruction is reached.
func TestNoRoomForWhatIsCaught(t *testing.T) {
	m := method{"static f (I)V", 0, 1, "a: nop\nb: return\nat: jump at\ncatch a b at X"}
	m.refuses(t, 0, api.ErrOver, "top | num |\ntop | num |\ntop | num |")
	m.refuses(t, 0, api.ErrOver, "top | num |\ntop | num |\n-")
	m.refuses(t, 0, api.ErrTyping, "top | num |\ntop | nil |\ntop | num |")
	m.refuses(t, 0, api.ErrTyping, "top | num |\n-\n-")
	m.code = "a: nop\nb: return\nat: jump at\ncatch b at at X"
	m.refuses(t, 1, api.ErrOver, "top | num |\ntop | num |\ntop | num |")
	m.code = "return\na: nop\nb: return\nat: jump at\ncatch a b at X\ncatch a at at X"
	m.takes(t, "top | num |\n-\n-\n-", "top | num |\n-\n-\ntop | nil |")
	m.refuses(t, 1, api.ErrOver, "top | num |\ntop | num |\ntop | num |\ntop | num |")
	m.refuses(t, 2, api.ErrOver, "top | num |\n-\ntop | num |\n-")
	m.code = "return\na: pop\nb: return\ncatch a b b X"
	m.refuses(t, 1, api.ErrUnder, "top | num |\ntop | num |\ntop | num |")
	// With one place there is room.
	method{"static f (I)V", 1, 1, "a: nop\nb: return\nat: jump at\ncatch a b at X"}.takes(t, "top | num |\ntop | num |\ntop | num | LX;")
	// The first handler has ErrTyping, the one behind it is not asked; and the other way about.
	two := method{"static f (I)V", 1, 1, "a: nop\nb: return\nx: jump x\ny: jump y\ncatch a b x X\ncatch a b y Y"}
	two.takes(t, "top | num |\ntop | num |\ntop | num | LX;\ntop | num | LY;")
	two.refuses(t, 0, api.ErrTyping, "top | num |\ntop | num |\ntop | num | LY;\ntop | num | LY;")
	two.refuses(t, 0, api.ErrTyping, "top | num |\ntop | num |\ntop | num | LX;\n-")
}

// P1101: instruction by instruction: all that is asked of one comes ahead of what is asked of the next one.
func TestOneByOne(t *testing.T) {
	m := method{"static f (I)V", 1, 1, "a: jump c\nb: add\nc: jump a\nd: nop\ncatch c d d X"}
	const right = "top | num |\n"
	m.refuses(t, 3, api.ErrEnd, right+"-\n"+right+"top | num | LX;")
	m.refuses(t, 2, api.ErrTyping, right+"-\n"+right+"top | num | LY;")
	m.refuses(t, 2, api.ErrTyping, right+"-\n"+right+"-")
	m.refuses(t, 1, api.ErrUnder, right+right+right+"-")
	m.refuses(t, 1, api.ErrWrong, right+"top | num | nil\n"+right+"top | num | LX;")
	m.refuses(t, 0, api.ErrTyping, right+right+"-\n-")
	m.refuses(t, 0, api.ErrTyping, right+right+"top | nil |\n-")
	m.code = "a: jump c\nb: add\nc: jump a\nd: jump d\ncatch c d d X"
	m.takes(t, right+"-\n"+right+"top | num | LX;")
}
