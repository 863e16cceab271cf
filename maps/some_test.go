package maps_test

import (
	"strconv"
	"strings"
	"testing"

	"keystone/api"
	"keystone/desc"
	"keystone/hier"
	"keystone/instr"
	"keystone/maps"
	"keystone/pool"
)

// The kinds of knowledge that have one value each.
var (
	num  = api.VType{Kind: api.VNum}
	null = api.VType{Kind: api.VNil}
	top  = api.VType{Kind: api.VTop}
)

// typ is a type, sig a signature by its text.
func typ(s string) api.Type {
	t, e := desc.Type(s)
	if e != api.OK {
		panic(s)
	}
	return t
}

func sig(s string) api.Sig {
	g, e := desc.Sig(s)
	if e != api.OK {
		panic(s)
	}
	return g
}

// row is some knowledge, by words: num, nil, top; a type's text; A@7 is fresh from place 7, A! a constructor's own.
func row(s string) []api.VType {
	var l []api.VType
	for _, word := range strings.Fields(s) {
		l = append(l, knowledge(word))
	}
	return l
}

func knowledge(word string) api.VType {
	class, at, made := strings.Cut(word, "@")
	switch {
	case word == "num":
		return num
	case word == "nil":
		return null
	case word == "top":
		return top
	case made:
		n, e := strconv.Atoi(at)
		if e != nil {
			panic(word)
		}
		return api.VType{Kind: api.VFresh, Type: api.Type{Name: class}, At: n}
	case strings.HasSuffix(word, "!"):
		return api.VType{Kind: api.VSelf, Type: api.Type{Name: strings.TrimSuffix(word, "!")}}
	}
	return api.VType{Kind: api.VRef, Type: typ(word)}
}

// of is a frame by its text: what is known of Self, the Locals, the Stack; `-` is one that is not reached.
func of(s string) api.Frame {
	if strings.TrimSpace(s) == "-" {
		return api.Frame{}
	}
	l := strings.Split(s, "|")
	if len(l) != 3 {
		panic(s)
	}
	return api.Frame{Self: row(l[0])[0], Locals: row(l[1]), Stack: row(l[2])}
}

// framesOf are frames by their texts, a line each.
func framesOf(s string) []api.Frame {
	var l []api.Frame
	for line := range strings.Lines(s) {
		if strings.TrimSpace(line) != "" {
			l = append(l, of(line))
		}
	}
	return l
}

// book is a module that grows.
type book struct {
	b       *pool.Builder
	classes []api.Class
}

func begin() *book { return &book{b: pool.New()} }

// entry puts into the pool what a text says: `number 5`, `class A`, `type [I`, `field A x I`, `method A f (I)I`.
func (k *book) entry(kind, s string) int {
	w := strings.Fields(s)
	var n int
	var e api.Errno
	switch kind {
	case "number":
		v, _ := strconv.ParseInt(w[0], 10, 64)
		n, e = k.b.Number(v)
	case "class":
		n, e = k.b.Class(w[0])
	case "type":
		n, e = k.b.Type(typ(w[0]))
	case "field":
		n, e = k.b.Field(w[0], w[1], typ(w[2]))
	case "method":
		n, e = k.b.Method(w[0], w[1], sig(w[2]))
	}
	if e != api.OK {
		panic(kind + " " + s)
	}
	return n
}

// kindOf is the kind of the entry of an operation's word; empty of those that have none.
func kindOf(word string) string {
	switch word {
	case "number":
		return "number"
	case "new":
		return "class"
	case "array", "cast", "is":
		return "type"
	case "get", "put", "gets", "puts":
		return "field"
	case "call", "face", "static", "init":
		return "method"
	}
	return ""
}

// jumps tells whether an operation's number is a place.
func jumps(op int) bool { return op >= api.IJump && op <= api.ISame }

// code is instructions by their text, a line each: a label and a colon ahead of those that are named, the word, what its entry says, or a label or a number. `catch from to at Class` is a handler. A label alone is that of what comes behind.
func (k *book) code(s string) ([]byte, []api.Handler) {
	var lines []string
	places := map[string]int{}
	at := 0
	for line := range strings.Lines(s) {
		line = strings.TrimSpace(line)
		if label, rest, named := strings.Cut(line, ":"); named {
			places[label] = at
			line = strings.TrimSpace(rest)
		}
		if line == "" {
			continue
		}
		lines = append(lines, line)
		if word := strings.Fields(line)[0]; word != "catch" {
			op, ok := instr.Op(word)
			if !ok {
				panic(line)
			}
			at += instr.Size(op)
		}
	}
	place := func(label string) int {
		n, there := places[label]
		if !there {
			panic("no label " + label)
		}
		return n
	}
	var l []api.Instr
	var handlers []api.Handler
	for _, line := range lines {
		word, rest, _ := strings.Cut(line, " ")
		if word == "catch" {
			w := strings.Fields(rest)
			handlers = append(handlers, api.Handler{From: place(w[0]), To: place(w[1]), At: place(w[2]), Class: w[3]})
			continue
		}
		l = append(l, k.instr(word, rest, place))
	}
	b, e := instr.Encode(l...)
	if e != api.OK {
		panic(s)
	}
	return b, handlers
}

func (k *book) instr(word, rest string, place func(string) int) api.Instr {
	op, _ := instr.Op(word)
	i := api.Instr{Op: op}
	switch {
	case kindOf(word) != "":
		i.N = k.entry(kindOf(word), rest)
	case jumps(op):
		i.N = place(rest)
	case rest != "":
		n, e := strconv.Atoi(rest)
		if e != nil {
			panic(word + " " + rest)
		}
		i.N = n
	}
	return i
}

// method is one by its heading (`static f (I)V`, `f (I)V`, `abstract f (I)V`) and its code's text.
func (k *book) method(heading string, stack, locals int, s string) api.Method {
	w := strings.Fields(heading)
	m := api.Method{Stack: stack, Locals: locals}
	switch w[0] {
	case "static":
		m.Flags, w = api.FStatic, w[1:]
	case "abstract":
		m.Flags, w = api.FAbstract, w[1:]
	}
	m.Name, m.Sig = w[0], sig(w[1])
	m.Code, m.Handlers = k.code(s)
	return m
}

// class puts one in, by its heading: `A Object`, `abstract E Object`, `face I Object`, behind it its faces.
func (k *book) class(heading string, l ...api.Method) {
	w := strings.Fields(heading)
	c := api.Class{Methods: l}
	switch w[0] {
	case "face":
		c.Flags, w = api.FFace, w[1:]
	case "abstract":
		c.Flags, w = api.FAbstract, w[1:]
	}
	c.Name, c.Super, c.Faces = w[0], w[1], w[2:]
	k.classes = append(k.classes, c)
}

// plain is a constructor that calls the one above.
func (k *book) plain(super string) api.Method {
	return k.method("<init> ()V", 1, 1, "load 0\ninit "+super+" <init> ()V\nreturn")
}

// family puts in A, B and C below it, D below C; X, an exception, Y below it; I, an interface, F, which has it, J, another one; E, which is abstract.
func (k *book) family() *book {
	k.class("face I Object", k.method("abstract i ()V", 0, 0, ""))
	k.class("face J Object")
	k.class("A Object", k.plain("Object"))
	k.classes[2].Fields = []api.Field{{Name: "x"}, {Name: "next", Type: typ("LA;")}, {Flags: api.FStatic, Name: "s", Type: typ("LA;")}}
	k.class("B A", k.plain("A"))
	k.class("C A", k.plain("A"))
	k.class("D C", k.plain("C"))
	k.class("X Throwable", k.plain("Throwable"))
	k.class("Y X", k.plain("X"))
	k.class("F Object I", k.method("i ()V", 0, 1, "return"), k.plain("Object"))
	k.class("abstract E Object", k.method("abstract e ()V", 0, 0, ""), k.plain("Object"), k.method("static g ()V", 0, 0, "return"))
	return k
}

func (k *book) module() api.Module { return api.Module{Pool: k.b.Pool(), Classes: k.classes} }

// loose is a world of modules as they were added; linked is it, linked.
func loose(t testing.TB, l ...api.Module) *hier.World {
	t.Helper()
	w := hier.New()
	for _, m := range l {
		if e := w.Add(m); e != api.OK {
			t.Fatalf("Add: %v", e)
		}
	}
	return w
}

func linked(t testing.TB, l ...api.Module) *hier.World {
	t.Helper()
	w := loose(t, l...)
	if s, e := w.Link(); e != api.OK {
		t.Fatalf("Link: %s, %v", s, e)
	}
	return w
}

// alone is a world with one method of class M, below A, beside the family.
func alone(t testing.TB, heading string, stack, locals int, s string) *hier.World {
	t.Helper()
	k := begin().family()
	k.class("M A", k.method(heading, stack, locals, s))
	return linked(t, k.module())
}

// mapsOf are maps by their texts, a line each: `3 10/1` is one of place 3 with an object in the first one of two Locals, and one on the Stack.
func mapsOf(s string) []api.Map {
	var l []api.Map
	for line := range strings.Lines(s) {
		if strings.TrimSpace(line) == "" {
			continue
		}
		at, bits, _ := strings.Cut(strings.TrimSpace(line), " ")
		n, e := strconv.Atoi(at)
		locals, stack, both := strings.Cut(bits, "/")
		if e != nil || !both {
			panic(line)
		}
		l = append(l, api.Map{At: n, Locals: bitsOf(locals), Stack: bitsOf(stack)})
	}
	return l
}

func bitsOf(s string) []bool {
	var l []bool
	for _, c := range s {
		l = append(l, c == '1')
	}
	return l
}

// texts writes maps, a line each; no list and an empty one are the same.
func texts(l []api.Map) string {
	var b strings.Builder
	for _, m := range l {
		b.WriteString(text(m) + "\n")
	}
	return b.String()
}

func text(m api.Map) string {
	return strconv.Itoa(m.At) + " " + bitText(m.Locals) + "/" + bitText(m.Stack)
}

func bitText(l []bool) string {
	b := make([]byte, len(l))
	for i, set := range l {
		b[i] = '0'
		if set {
			b[i] = '1'
		}
	}
	return string(b)
}

// tells holds the maps that Method tells of a method of M against what is wanted.
func tells(t testing.TB, heading string, stack, locals int, s, want string) {
	t.Helper()
	got, e := maps.Method(alone(t, heading, stack, locals, s), "M", 0)
	if wanted := texts(mapsOf(want)); e != api.OK || texts(got) != wanted {
		t.Errorf("%s\n%s\ntold: %v\n%s\nwanted:\n%s", heading, s, e, texts(got), wanted)
	}
}

// refuses holds the error that Method tells of a method of M against what is wanted.
func refuses(t testing.TB, heading string, stack, locals int, s string, want api.Errno) {
	t.Helper()
	if got, e := maps.Method(alone(t, heading, stack, locals, s), "M", 0); e != want || len(got) > 0 {
		t.Errorf("%s\n%s\ntold: %v\n%s\nwanted: %v", heading, s, e, texts(got), want)
	}
}
