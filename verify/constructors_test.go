package verify_test

import (
	"testing"

	"keystone/api"
)

// P1001: a constructor begins with its own object, not initialised; behind init it is an object like any other, everywhere.
func TestConstructors(t *testing.T) {
	tells(t, "<init> (I)V", 2, 3, `
		load 0
		store 2
		load 0
		init A <init> ()V
		load 2
		load 1
		put A x I
		return`, `
		M! | M! num top |
		M! | M! num top | M!
		M! | M! num M! |
		M! | M! num M! | M!
		LM; | LM; num LM; |
		LM; | LM; num LM; | LM;
		LM; | LM; num LM; | LM; num
		LM; | LM; num LM; |`)
	// By its own class's constructor, too.
	tells(t, "<init> ()V", 1, 1, "load 0\ninit M <init> ()V\nreturn", "M! | M! |\nM! | M! | M!\nLM; | LM; |")
	// The local may be written over: Self is what counts.
	tells(t, "<init> ()V", 1, 1, "load 0\ninit A <init> ()V\nnil\nstore 0\nreturn", `
		M! | M! |
		M! | M! | M!
		LM; | LM; |
		LM; | LM; | nil
		LM; | nil |`)
}

// P1001: initialised on every way, by another instruction on each.
func TestConstructorsOnEveryWay(t *testing.T) {
	tells(t, "<init> (I)V", 2, 2, `
		load 1
		zero other
		load 0
		init A <init> ()V
		jump both
		other: load 0
		load 1
		init M <init> (I)V
		both: return`, `
		M! | M! num |
		M! | M! num | num
		M! | M! num |
		M! | M! num | M!
		LM; | LM; num |
		M! | M! num |
		M! | M! num | M!
		M! | M! num | M! num
		LM; | LM; num |`)
	// Where both ways have met, and only then.
	tells(t, "<init> (I)V", 2, 2, `
		load 1
		zero both
		nop
		both: load 0
		init A <init> ()V
		return`, `
		M! | M! num |
		M! | M! num | num
		M! | M! num |
		M! | M! num |
		M! | M! num | M!
		LM; | LM; num |`)
	// One way ends elsewhere: by a throw, or never.
	tells(t, "<init> (I)V", 2, 2, `
		load 1
		zero made
		load 1
		minus round
		nil
		throw
		round: jump round
		made: load 0
		init A <init> ()V
		return`, `
		M! | M! num |
		M! | M! num | num
		M! | M! num |
		M! | M! num | num
		M! | M! num |
		M! | M! num | nil
		M! | M! num |
		M! | M! num |
		M! | M! num | M!
		LM; | LM; num |`)
}

// P1001: on one way alone it does not do: neither may it return, nor use its object, nor initialise it then.
func TestConstructorsOnOneWay(t *testing.T) {
	refuses(t, "<init> ()V", 1, 1, "return", api.ErrTyping)
	const half = `
		load 1
		zero both
		load 0
		init A <init> ()V
		both: `
	refuses(t, "<init> (I)V", 1, 2, half+"return", api.ErrTyping)
	refuses(t, "<init> (I)V", 1, 2, half+"load 0\nget A x I\npop\nagain: jump again", api.ErrTyping)
	refuses(t, "<init> (I)V", 1, 2, half+"load 0\ninit A <init> ()V\nreturn", api.ErrTyping)
	tells(t, "<init> (I)V", 1, 2, half+"jump both", `
		M! | M! num |
		M! | M! num | num
		M! | M! num |
		M! | M! num | M!
		top | top num |`)
	// Round and round: the second time it is initialised already.
	refuses(t, "<init> (I)V", 1, 2, "again: load 0\ninit A <init> ()V\nload 1\nzero again\nreturn", api.ErrTyping)
}

// P1001: twice; by a constructor of a class that stands elsewhere; where its own object is gone.
func TestConstructorsThatAreRefused(t *testing.T) {
	for _, s := range []string{
		"load 0\ninit A <init> ()V\nload 0\ninit A <init> ()V\nreturn",
		"load 0\ninit Object <init> ()V\nreturn",
		"load 0\ninit B <init> ()V\nreturn",
		"new A\ninit A <init> ()V\nreturn",
		"nil\ninit A <init> ()V\nreturn",
		"load 0\nget A x I\npop\nload 0\ninit A <init> ()V\nreturn",
		"load 0\nputs A s LA;\nload 0\ninit A <init> ()V\nreturn",
		"nil\nstore 0\nload 0\ninit A <init> ()V\nreturn",
		"load 0\nthrow",
	} {
		refuses(t, "<init> ()V", 2, 1, s, api.ErrTyping)
	}
	// Another method may not initialise its own object.
	refuses(t, "f ()V", 2, 1, "load 0\ninit A <init> ()V\nreturn", api.ErrTyping)
}

// P1001: a handler that covers the init finds the object as it was ahead of it; one that covers what is behind it, too, finds neither.
func TestConstructorsThatCatch(t *testing.T) {
	tells(t, "<init> ()V", 1, 1, `
		a: load 0
		init A <init> ()V
		b: return
		at: throw
		catch a b at X`, `
		M! | M! |
		M! | M! | M!
		LM; | LM; |
		M! | M! | LX;`)
	tells(t, "<init> ()V", 1, 1, `
		a: load 0
		init A <init> ()V
		return
		at: throw
		catch a at at X`, `
		M! | M! |
		M! | M! | M!
		LM; | LM; |
		top | top | LX;`)
	tells(t, "<init> ()V", 1, 1, `
		load 0
		init A <init> ()V
		a: nop
		b: return
		at: pop
		return
		catch a b at X`, `
		M! | M! |
		M! | M! | M!
		LM; | LM; |
		LM; | LM; |
		LM; | LM; | LX;
		LM; | LM; |`)
	refuses(t, "<init> ()V", 1, 1, "a: load 0\ninit A <init> ()V\nb: return\nat: pop\nreturn\ncatch a b at X", api.ErrTyping)
	refuses(t, "<init> ()V", 1, 1, "a: load 0\ninit A <init> ()V\nreturn\nat: pop\nreturn\ncatch a at at X", api.ErrTyping)
	// It may try again, as long as it is not initialised.
	tells(t, "<init> ()V", 1, 1, `
		a: load 0
		init A <init> ()V
		b: return
		at: pop
		jump a
		catch a b at X`, `
		M! | M! |
		M! | M! | M!
		LM; | LM; |
		M! | M! | LX;
		M! | M! |`)
}
