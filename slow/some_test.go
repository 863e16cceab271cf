package slow_test

import (
	"fmt"
	"strconv"
	"strings"
	"testing"

	"keystone/api"
	"keystone/desc"
	"keystone/hier"
	"keystone/instr"
	"keystone/pool"
	"keystone/slow"
)

// typ is a type, sig a signature by its text.
func typ(s string) api.Type {
	t, e := desc.Type(s)
	if e != api.OK {
		panic(s)
	}
	return t
}

func sig(s string) api.Sig {
	g, e := desc.Sig(s)
	if e != api.OK {
		panic(s)
	}
	return g
}

// number is a number by its text.
func number(s string) int {
	n, e := strconv.Atoi(s)
	if e != nil {
		panic(s)
	}
	return n
}

// num and obj are values.
func num(n int64) api.Value { return api.Value{N: n} }

func obj(n int64) api.Value { return api.Value{Ref: true, N: n} }

// vals are values by their text: `7 -2 @3 @0`, the last ones an object and nil.
func vals(s string) []api.Value {
	var l []api.Value
	for _, w := range strings.Fields(s) {
		text, ref := strings.CutPrefix(w, "@")
		n, e := strconv.ParseInt(text, 10, 64)
		if e != nil {
			panic(s)
		}
		l = append(l, api.Value{Ref: ref, N: n})
	}
	return l
}

// valText is a value's text.
func valText(v api.Value) string {
	n := strconv.FormatInt(v.N, 10)
	if v.Ref {
		return "@" + n
	}
	return n
}

// resText is all of a result: `ok 3 :4`, `thrown DivError :3`, `args`, behind it what was printed; whatever else is not zero stands there, too.
func resText(r api.Result) string {
	s := r.Err.Error()
	if r.Err == api.OK || r.Value != (api.Value{}) {
		s += " " + valText(r.Value)
	}
	if r.Thrown != "" {
		s += " " + r.Thrown
	}
	switch r.Err {
	case api.OK, api.ErrThrown, api.ErrFuel, api.ErrTrap:
		s += " :" + strconv.Itoa(r.Steps)
	default:
		if r.Steps != 0 {
			s += " :" + strconv.Itoa(r.Steps)
		}
	}
	if len(r.Out) > 0 {
		s += " " + fmt.Sprint(r.Out)
	}
	return s
}

// book is a module that grows.
type book struct {
	b       *pool.Builder
	classes []api.Class
}

// entry puts into the pool what an instruction of that word says: `number 5`, `new A`, `get A x I`, `call A f (I)I`, `cast [I`; false, if it has none.
func (k *book) entry(word, rest string) (int, bool) {
	w := strings.Fields(rest)
	var n int
	var e api.Errno
	switch word {
	case "number":
		v, _ := strconv.ParseInt(w[0], 10, 64)
		n, e = k.b.Number(v)
	case "new":
		n, e = k.b.Class(w[0])
	case "array", "cast", "is":
		n, e = k.b.Type(typ(w[0]))
	case "get", "put", "gets", "puts":
		n, e = k.b.Field(w[0], w[1], typ(w[2]))
	case "call", "face", "static", "init":
		n, e = k.b.Method(w[0], w[1], sig(w[2]))
	default:
		return 0, false
	}
	if e != api.OK {
		panic(word + " " + rest)
	}
	return n, true
}

// code is instructions by their lines: labels with a colon ahead of what they name; what the entry says, a label or a number behind the word. `catch from to at Class` is a handler; a label alone names what comes behind.
func (k *book) code(lines []string) ([]byte, []api.Handler) {
	places, at := map[string]int{}, 0
	var rows [][2]string
	for _, line := range lines {
		for label, rest, named := strings.Cut(line, ":"); named; label, rest, named = strings.Cut(line, ":") {
			places[label], line = at, strings.TrimSpace(rest)
		}
		if line == "" {
			continue
		}
		word, rest, _ := strings.Cut(line, " ")
		rows = append(rows, [2]string{word, rest})
		if op, is := instr.Op(word); is {
			at += instr.Size(op)
		}
	}
	var l []api.Instr
	var handlers []api.Handler
	for _, x := range rows {
		if w := strings.Fields(x[1]); x[0] == "catch" {
			handlers = append(handlers, api.Handler{From: places[w[0]], To: places[w[1]], At: places[w[2]], Class: w[3]})
			continue
		}
		l = append(l, k.instr(x[0], x[1], places))
	}
	b, e := instr.Encode(l...)
	if e != api.OK {
		panic(lines)
	}
	return b, handlers
}

func (k *book) instr(word, rest string, places map[string]int) api.Instr {
	op, is := instr.Op(word)
	if !is {
		panic(word)
	}
	i := api.Instr{Op: op}
	n, has := k.entry(word, rest)
	place, named := places[rest]
	switch {
	case has:
		i.N = n
	case named:
		i.N = place
	case rest != "":
		i.N = number(rest)
	}
	return i
}

// module is one by its text:
//
//	class A Object I      (interface I Object, abstract E Object; behind the Super its faces)
//	has x I               (has static s LA;)
//	does f (II)I 2 2      (does static .., does abstract ..; Stack and Locals: 8, where they are not told)
//	load 0                (and so on: its code's lines)
func module(text string) api.Module {
	k := &book{b: pool.New()}
	var lines []string
	var inMethod *api.Method
	finish := func() {
		if inMethod != nil {
			inMethod.Code, inMethod.Handlers = k.code(lines)
		}
		inMethod, lines = nil, nil
	}
	for line := range strings.Lines(text) {
		line = strings.TrimSpace(line)
		w := strings.Fields(line)
		if line == "" {
			continue
		}
		switch w[0] {
		case "class", "interface", "abstract":
			finish()
			flags := map[string]int{"interface": api.FFace, "abstract": api.FAbstract}[w[0]]
			k.classes = append(k.classes, api.Class{Flags: flags, Name: w[1], Super: w[2], Faces: w[3:]})
		case "has":
			c := &k.classes[len(k.classes)-1]
			c.Fields = append(c.Fields, field(w[1:]))
		case "does":
			finish()
			c := &k.classes[len(k.classes)-1]
			c.Methods = append(c.Methods, heading(w[1:]))
			if inMethod = &c.Methods[len(c.Methods)-1]; inMethod.Flags == api.FAbstract {
				inMethod = nil
			}
		default:
			lines = append(lines, line)
		}
	}
	finish()
	return api.Module{Pool: k.b.Pool(), Classes: k.classes}
}

func field(w []string) api.Field {
	if w[0] == "static" {
		return api.Field{Flags: api.FStatic, Name: w[1], Type: typ(w[2])}
	}
	return api.Field{Name: w[0], Type: typ(w[1])}
}

func heading(w []string) api.Method {
	m := api.Method{Stack: 8, Locals: 8}
	switch w[0] {
	case "static":
		m.Flags, w = api.FStatic, w[1:]
	case "abstract":
		return api.Method{Flags: api.FAbstract, Name: w[1], Sig: sig(w[2])}
	}
	m.Name, m.Sig = w[0], sig(w[1])
	if len(w) > 2 {
		m.Stack, m.Locals = number(w[2]), number(w[3])
	}
	return m
}

// loose is a world of modules by their texts, world is it, linked.
func loose(t testing.TB, l ...string) *hier.World {
	t.Helper()
	w := hier.New()
	for _, text := range l {
		if e := w.Add(module(text)); e != api.OK {
			t.Fatalf("Add: %v", e)
		}
	}
	return w
}

func world(t testing.TB, l ...string) *hier.World {
	t.Helper()
	w := loose(t, l...)
	if s, e := w.Link(); e != api.OK {
		t.Fatalf("Link: %s, %v", s, e)
	}
	return w
}

// of is a machine of a world.
func of(t testing.TB, w *hier.World, depth int) *slow.Machine {
	t.Helper()
	m, e := slow.New(w, depth)
	if m == nil || e != api.OK {
		t.Fatalf("New: %v", e)
	}
	return m
}

// begin is a machine of modules by their texts.
func begin(t testing.TB, l ...string) *slow.Machine {
	t.Helper()
	return of(t, world(t, l...), 16)
}

// runner is a machine, or what is held against one.
type runner interface {
	Run(fuel int, class, name string, g api.Sig, args ...api.Value) api.Result
}

// run calls a method that is told so: `A f (II)I`.
func run(m runner, fuel int, method, args string) api.Result {
	w := strings.Fields(method)
	return m.Run(fuel, w[0], w[1], sig(w[2]), vals(args)...)
}

// runs holds what a run tells against what is wanted.
func runs(t testing.TB, m runner, method, args, want string) {
	t.Helper()
	if got := resText(run(m, 100000, method, args)); got != want {
		t.Errorf("%s of %s: %s, wanted %s", method, args, got, want)
	}
}

// plain is a constructor that calls the one above.
func plain(super string) string {
	return "does <init> ()V\nload 0\ninit " + super + " <init> ()V\nreturn\n"
}

// alone is a machine with the class M, below Object, that has one static method f: a heading's rest (`(I)I 2 2`) and code; other classes behind it.
func alone(t testing.TB, rest, code string, others ...string) *slow.Machine {
	t.Helper()
	return begin(t, append([]string{"class M Object\ndoes static f " + rest + "\n" + code}, others...)...)
}

// tells holds a run of such a method against what is wanted.
func tells(t testing.TB, rest, code, args, want string) {
	t.Helper()
	m := alone(t, rest, code, family)
	if got := resText(run(m, 100000, "M f "+strings.Fields(rest)[0], args)); got != want {
		t.Errorf("%s\n%s\nof %s: %s, wanted %s", rest, code, args, got, want)
	}
}

// made are the lines that put a new object of a class that has a constructor without parameters on the Stack.
func made(class string) string {
	return "new " + class + "\ndup\ninit " + class + " <init> ()V\n"
}

// family is A with fields of all sorts, B and C below it; I, which A has, J, which B has; X, an exception, Y below it.
var family = "interface I Object\ndoes abstract i ()I\n" +
	"interface J Object I\ndoes abstract j (I)I\n" +
	"class A Object I\nhas x I\nhas next LA;\nhas static s LA;\nhas any LObject;\nhas static t I\nhas row [I\n" + plain("Object") +
	"does i ()I\nnumber 1\ngive\n" +
	"does who ()I\nnumber 10\ngive\n" +
	"does static made ()LA;\n" + made("A") + "give\n" +
	"class B A J\nhas x I\nhas y LI;\nhas static s I\n" + plain("A") +
	"does who ()I\nnumber 20\ngive\n" +
	"does j (I)I\nload 1\nneg\ngive\n" +
	"class C B\n" + plain("B") +
	"does i ()I\nnumber 3\ngive\n" +
	"abstract E Object\ndoes abstract e ()I\n" + plain("Object") +
	"class F E\n" + plain("E") + "does e ()I\nnumber 7\ngive\n" +
	"class X Throwable\nhas n I\n" + plain("Throwable") +
	"class Y X\n" + plain("X")

// state is all that a machine tells of what it holds.
func state(m teller, classes []string, fields ...string) string {
	var b strings.Builder
	fmt.Fprintln(&b, m.Stat())
	for ref := int64(0); ref <= int64(m.Stat().Objects)+1; ref++ {
		fmt.Fprintln(&b, ref, fmt.Sprint(m.Object(ref)))
	}
	for _, c := range classes {
		for _, f := range fields {
			fmt.Fprintln(&b, c, f, fmt.Sprint(m.Static(c, f)))
		}
	}
	return b.String()
}

// teller is a machine's face, or that of what is held against one.
type teller interface {
	runner
	Static(class, name string) (api.Value, api.Errno)
	Object(ref int64) (api.Type, []api.Value, api.Errno)
	Stat() api.Stat
}

// decoded is the instruction at a place.
func decoded(code []byte, at int) api.Instr {
	i, e := instr.Decode(code, at)
	if e != api.OK {
		panic(e)
	}
	return i
}
