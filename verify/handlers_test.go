package verify_test

import (
	"strings"
	"testing"

	"keystone/api"
)

// P1001: where a handler begins the Stack is what was caught, alone; the Locals are what they may be ahead of each instruction that it covers, not behind the last one.
func TestWhatHandlersBeginWith(t *testing.T) {
	tells(t, "static f (II)I", 2, 2, `
		from: load 0
		load 1
		div
		to: give
		at: pop
		number 5
		give
		catch from to at DivError`, `
		top | num num |
		top | num num | num
		top | num num | num num
		top | num num | num
		top | num num | LDivError;
		top | num num |
		top | num num | num`)
	// What the last one that is covered stores is not known there.
	tells(t, "static f ()V", 1, 2, `
		nil
		store 0
		from: nil
		store 1
		number 1
		store 0
		to: return
		at: store 0
		return
		catch from to at X`, `
		top | top top |
		top | top top | nil
		top | nil top |
		top | nil top | nil
		top | nil nil |
		top | nil nil | num
		top | num nil |
		top | nil top | LX;
		top | LX; top |`)
	// One instruction more is covered: what was stored counts.
	tells(t, "static f ()V", 1, 2, `
		nil
		store 0
		from: nil
		store 1
		number 1
		store 0
		return
		at: store 1
		return
		catch from at at Throwable`, `
		top | top top |
		top | top top | nil
		top | nil top |
		top | nil top | nil
		top | nil nil |
		top | nil nil | num
		top | num nil |
		top | top top | LThrowable;
		top | top LThrowable; |`)
}

// P1001: new and init change what is known of Locals, too.
func TestHandlersFindWhatIsMade(t *testing.T) {
	tells(t, "static f ()V", 2, 1, `
		new A
		dup
		store 0
		from: nop
		init A <init> ()V
		load 0
		to: pop
		return
		at: pop
		load 0
		pop
		return
		catch from to at Y`, `
		top | top |
		top | top | A@0
		top | top | A@0 A@0
		top | A@0 | A@0
		top | A@0 | A@0
		top | LA; |
		top | LA; | LA;
		top | LA; |
		top | top | LY;
		top | top |
		top | top | top
		top | top |`)
	// A new one at the same place: what was made ahead is nothing any more, from the instruction behind it on.
	tells(t, "static f (I)V", 2, 2, `
		from: new A
		to: store 1
		load 0
		zero from
		return
		at: pop
		return
		catch from to at Y`, `
		top | num top |
		top | num top | A@0
		top | num A@0 |
		top | num A@0 | num
		top | num A@0 |
		top | num top | LY;
		top | num top |`)
	tells(t, "static f (I)V", 2, 2, `
		new B
		store 1
		jump from
		again: new C
		store 1
		from: nop
		to: load 0
		zero again
		load 0
		print
		return
		at: pop
		return
		catch from to at Y`, `
		top | num top |
		top | num top | B@0
		top | num B@0 |
		top | num top |
		top | num top | C@8
		top | num top |
		top | num top |
		top | num top | num
		top | num top |
		top | num top | num
		top | num top |
		top | num top | LY;
		top | num top |`)
}

// P1001: the edges of what is covered: From is, To is not; a handler may cover itself, and all of the code.
func TestWhatIsCovered(t *testing.T) {
	const code = `
		a: nil
		b: store 0
		c: return
		at: store 0
		return
		end:
		`
	for _, x := range []struct{ catch, local string }{
		{"catch a b at X", "num"},
		{"catch a c at X", "num"},
		{"catch b c at X", "num"},
		{"catch c at at X", "nil"},
		{"catch b at at X", "top"},
		{"catch a at at X", "top"},
	} {
		w := alone(t, "static f (I)V", 1, 1, code+x.catch)
		got, e := methodOf(w)
		if e != api.OK || text(got[3]) != "top | "+x.local+" | LX;" {
			t.Errorf("%s: %v, %v", x.catch, texts(got), e)
		}
	}
	// All of it: what the handler stores comes back to it.
	tells(t, "static f (I)V", 1, 1, code+"catch a end at X", `
		top | num |
		top | num | nil
		top | nil |
		top | top | LX;
		top | LX; |`)
	// Itself alone: nothing reaches it.
	tells(t, "static f (I)V", 1, 1, code+"catch at end at X", `
		top | num |
		top | num | nil
		top | nil |
		-
		-`)
	// It may be the first instruction, if nothing but the beginning has its depth: there is none then.
	refuses(t, "static f (I)V", 1, 1, "a: return\nend:\ncatch a end a X", api.ErrTyping)
}

// P1001: several handlers, of one range, of one beginning, one inside of another one.
func TestSeveralHandlers(t *testing.T) {
	tells(t, "static f (I)V", 1, 1, `
		a: nop
		b: nop
		c: return
		x: store 0
		return
		y: store 0
		return
		catch a b x X
		catch a b y DivError
		catch a c y NilError`, `
		top | num |
		top | num |
		top | num |
		top | num | LX;
		top | LX; |
		top | num | LThrowable;
		top | LThrowable; |`)
	tells(t, "static f (I)V", 1, 1, `
		a: nop
		b: return
		x: store 0
		return
		catch a b x Y
		catch a b x X
		catch a b x Y`, `
		top | num |
		top | num |
		top | num | LX;
		top | LX; |`)
	// What one handler leads to another one covers.
	tells(t, "static f (I)V", 1, 1, `
		a: nop
		b: return
		x: store 0
		xx: return
		y: store 0
		return
		catch a b x Y
		catch x y y DivError`, `
		top | num |
		top | num |
		top | num | LY;
		top | LY; |
		top | top | LDivError;
		top | LDivError; |`)
	// A handler that leads back into what it covers.
	tells(t, "static f (I)V", 1, 1, `
		a: nop
		load 0
		b: pop
		return
		x: store 0
		jump a
		catch a b x Y`, `
		top | top |
		top | top |
		top | top | top
		top | top |
		top | top | LY;
		top | LY; |`)
}

// P1001: without room for what is caught a handler that covers what is reached has no typing; one that covers nothing that is reached is as good as none.
func TestNoRoomForWhatIsCaught(t *testing.T) {
	refuses(t, "static f ()V", 0, 0, "a: nop\nb: return\nat: return\ncatch a b at X", api.ErrTyping)
	refuses(t, "static f ()V", 0, 0, "nop\na: return\nb: return\nat: return\ncatch a b at X", api.ErrTyping)
	// Nor does it help that the value is taken at once.
	for _, first := range []string{"pop\nreturn", "store 0\nreturn", "throw"} {
		refuses(t, "static f (I)V", 0, 1, "a: nop\nb: return\nat: "+first+"\ncatch a b at X", api.ErrTyping)
		tells(t, "static f (I)V", 0, 1, "return\na: nop\nb: return\nat: "+first+"\ncatch a b at X", "top | num |\n-\n-\n-"+strings.Repeat("\n-", strings.Count(first, "\n")))
	}
	tells(t, "static f ()V", 0, 0, "return\na: nop\nb: return\nat: return\ncatch a b at X", "top | |\n-\n-\n-")
	tells(t, "static f ()V", 1, 0, "a: nop\nb: return\nat: return\ncatch a b at X", "top | |\ntop | |\ntop | | LX;")
}

// P1001: a handler that covers nothing that is reached leads nowhere, whatever stands there.
func TestHandlersOfWhatNothingReaches(t *testing.T) {
	tells(t, "static f (I)V", 1, 1, `
		return
		a: nil
		b: store 0
		return
		at: add
		nop
		catch a b at X`, `
		top | num |
		-
		-
		-
		-
		-`)
	// What it covers is reached by one way at last.
	refuses(t, "static f (I)V", 1, 1, `
		load 0
		zero a
		return
		a: nil
		b: store 0
		return
		at: add
		nop
		catch a b at X`, api.ErrTyping)
}

// P1001: a handler's code is asked like any other: what is known there must do.
func TestWhatHandlersDo(t *testing.T) {
	refuses(t, "static f (I)V", 2, 1, "a: nop\nb: return\nat: print\nreturn\ncatch a b at X", api.ErrTyping)
	refuses(t, "static f (I)V", 2, 1, "a: nil\nstore 0\nb: return\nat: pop\nload 0\nprint\nreturn\nend:\ncatch a at at X", api.ErrTyping)
	tells(t, "static f (I)V", 2, 1, "a: nil\nstore 0\nb: return\nat: pop\nload 0\nprint\nreturn\nend:\ncatch a b at X", `
		top | num |
		top | num | nil
		top | nil |
		top | num | LX;
		top | num |
		top | num | num
		top | num |`)
	tells(t, "static f (I)LX;", 2, 1, "a: nil\nb: give\nat: give\ncatch a b at Y", "top | num |\ntop | num | nil\ntop | num | LY;")
	refuses(t, "static f (I)LY;", 2, 1, "a: nil\nb: give\nat: give\ncatch a b at X", api.ErrTyping)
}

// P1001: ErrSuper: above a handler's class Throwable does not stand; whether it covers anything that is reached is not asked, nor whether there is a typing.
func TestHandlersOfWhatIsNotThrown(t *testing.T) {
	for _, class := range []string{"Object", "A", "D", "I", "E", "M"} {
		refuses(t, "static f (I)V", 1, 1, "a: nop\nb: return\nat: pop\nreturn\ncatch a b at "+class, api.ErrSuper)
		refuses(t, "static f (I)V", 1, 1, "return\na: nop\nb: return\nat: pop\nreturn\ncatch a b at "+class, api.ErrSuper)
		refuses(t, "static f (I)V", 1, 1, "a: nop\nb: return\nat: pop\nreturn\ncatch a b at X\ncatch a b at "+class, api.ErrSuper)
		refuses(t, "static f (I)V", 1, 1, "a: nop\nb: return\nat: pop\nreturn\ncatch a b at "+class+"\ncatch a b at X", api.ErrSuper)
		// Ahead of ErrTyping.
		refuses(t, "static f (I)V", 0, 1, "a: pop\nb: add\nat: add\ncatch a b at "+class, api.ErrSuper)
		refuses(t, "static f (I)V", 1, 1, "add\na: nop\nb: return\nat: pop\nreturn\ncatch a b at Y\ncatch a b at "+class, api.ErrSuper)
	}
	for _, class := range []string{"Throwable", "NilError", "BoundsError", "CastError", "DivError", "DepthError", "HeapError", "X", "Y"} {
		tells(t, "static f (I)V", 1, 1, "a: nop\nb: return\nat: pop\nreturn\ncatch a b at "+class, "top | num |\ntop | num |\ntop | num | L"+class+";\ntop | num |")
	}
}
