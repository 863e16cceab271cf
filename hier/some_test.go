package hier_test

import (
	"fmt"
	"math/rand"
	"reflect"
	"slices"
	"strconv"
	"strings"
	"testing"

	"keystone/api"
	"keystone/desc"
	"keystone/hier"
	"keystone/pool"
)

// typ and sig are a type and a signature by their texts.
func typ(s string) api.Type {
	t, e := desc.Type(s)
	if e != api.OK {
		panic(s)
	}
	return t
}

func sig(s string) api.Sig {
	g, e := desc.Sig(s)
	if e != api.OK {
		panic(s)
	}
	return g
}

// field is one of a class, does a method with code, owes an abstract one.
func field(flags int, name, s string) api.Field {
	return api.Field{Flags: flags, Name: name, Type: typ(s)}
}

func does(flags int, name, s string) api.Method {
	g := sig(s)
	return api.Method{Flags: flags, Name: name, Sig: g, Stack: 1, Locals: len(g.Params) + 1, Code: []byte{api.INil, api.IThrow}}
}

func owes(name, s string) api.Method {
	return api.Method{Flags: api.FAbstract, Name: name, Sig: sig(s)}
}

// class is one with these parts: texts are its Faces, the others its fields and methods.
func class(name, super string, parts ...any) api.Class {
	c := api.Class{Name: name, Super: super}
	for _, p := range parts {
		switch x := p.(type) {
		case string:
			c.Faces = append(c.Faces, x)
		case api.Field:
			c.Fields = append(c.Fields, x)
		case api.Method:
			c.Methods = append(c.Methods, x)
		default:
			panic(x)
		}
	}
	return c
}

func open(name, super string, parts ...any) api.Class {
	c := class(name, super, parts...)
	c.Flags = api.FAbstract
	return c
}

func face(name string, parts ...any) api.Class {
	c := class(name, "Object", parts...)
	c.Flags = api.FFace
	return c
}

// adds adds a module of these classes, without a pool.
func adds(t *testing.T, w *hier.World, l ...api.Class) {
	t.Helper()
	if e := w.Add(api.Module{Classes: l}); e != api.OK {
		t.Fatalf("Add: %v", e)
	}
}

// world is these classes, linked.
func world(t *testing.T, l ...api.Class) *hier.World {
	t.Helper()
	w := hier.New()
	adds(t, w, l...)
	if s, e := w.Link(); s != "" || e != api.OK {
		t.Fatalf("Link: %s, %v", s, e)
	}
	return w
}

// image is all that a value holds, as text; lists that are nil and empty ones have the same. With room it shows the spare room of lists, too.
func image(x any, room bool) string {
	var b strings.Builder
	draw(&b, reflect.ValueOf(x), room)
	return b.String()
}

func draw(b *strings.Builder, v reflect.Value, room bool) {
	switch v.Kind() {
	case reflect.Slice:
		l := v
		if room {
			l = v.Slice(0, v.Cap())
		}
		b.WriteString(strconv.Itoa(v.Len()) + "[")
		for i := range l.Len() {
			draw(b, l.Index(i), room)
		}
		b.WriteString("]")
	case reflect.Struct:
		b.WriteString("{")
		for i := range v.NumField() {
			draw(b, v.Field(i), room)
		}
		b.WriteString("}")
	case reflect.String:
		b.WriteString(strconv.Quote(v.String()) + " ")
	default:
		fmt.Fprint(b, v.Interface(), " ")
	}
}

// roomy is a value that is the same, all of whose lists have spare room with something in it.
func roomy[T any](x T) T {
	v := reflect.ValueOf(&x).Elem()
	widen(v)
	return x
}

func widen(v reflect.Value) {
	switch v.Kind() {
	case reflect.Slice:
		l := reflect.MakeSlice(v.Type(), v.Len()+2, v.Len()+2)
		reflect.Copy(l, v)
		for i := v.Len(); i < l.Len(); i++ {
			fill(l.Index(i))
		}
		for i := range v.Len() {
			widen(l.Index(i))
		}
		v.Set(l.Slice(0, v.Len()))
	case reflect.Struct:
		for i := range v.NumField() {
			widen(v.Field(i))
		}
	}
}

// fill puts into a value what can be told from all else.
func fill(v reflect.Value) {
	switch v.Kind() {
	case reflect.Int, reflect.Int64:
		v.SetInt(77)
	case reflect.Uint8:
		v.SetUint(77)
	case reflect.Bool:
		v.SetBool(true)
	case reflect.String:
		v.SetString("spare")
	case reflect.Struct:
		for i := range v.NumField() {
			fill(v.Field(i))
		}
	}
}

// spoil writes over all that a value's lists hold, their spare room too.
func spoil(x any) { overwrite(reflect.ValueOf(x)) }

func overwrite(v reflect.Value) {
	switch v.Kind() {
	case reflect.Slice:
		l := v.Slice(0, v.Cap())
		for i := range l.Len() {
			overwrite(l.Index(i))
			fill(l.Index(i))
		}
	case reflect.Struct:
		for i := range v.NumField() {
			overwrite(v.Field(i))
		}
	}
}

// span is the memory of a list, with its spare room.
type span struct{ from, to uintptr }

func spans(v reflect.Value) []span {
	var l []span
	switch v.Kind() {
	case reflect.Slice:
		if size := v.Type().Elem().Size(); v.Cap() > 0 && size > 0 {
			l = append(l, span{v.Pointer(), v.Pointer() + uintptr(v.Cap())*size})
		}
		for i := range v.Len() {
			l = append(l, spans(v.Index(i))...)
		}
	case reflect.Struct:
		for i := range v.NumField() {
			l = append(l, spans(v.Field(i))...)
		}
	}
	return l
}

// shared is whether two lists in these values share memory.
func shared(l ...any) bool {
	var all []span
	for _, x := range l {
		all = append(all, spans(reflect.ValueOf(x))...)
	}
	for i, a := range all {
		for _, b := range all[:i] {
			if a.from < b.to && b.from < a.to {
				return true
			}
		}
	}
	return false
}

// The names of which the classes of random worlds are made; None is never there.
var (
	someClasses = []string{"A", "B", "C", "D", "E"}
	someFaces   = []string{"I", "J", "K"}
	someTypes   = []string{"I", "[I", "LA;", "LI;", "[LB;", "LObject;", "[[LThrowable;"}
	someSigs    = []string{"()V", "()I", "(LA;)V", "(I[LI;)LB;"}
)

func of(r *rand.Rand, l ...string) string { return l[r.Intn(len(l))] }

// seldom is true once in so many times.
func seldom(r *rand.Rand, n int) bool { return r.Intn(n) == 0 }

// someType is one of someTypes, seldom one whose class may lack.
func someType(r *rand.Rand) string {
	if seldom(r, 300) {
		return of(r, "LNone;", "[LNone;")
	}
	return of(r, someTypes...)
}

func someSig(r *rand.Rand) string {
	if seldom(r, 300) {
		return of(r, "()LNone;", "(I[LNone;)V")
	}
	return of(r, someSigs...)
}

// someFields are at most three, no two of one name.
func someFields(r *rand.Rand) []api.Field {
	var l []api.Field
	for _, name := range []string{"x", "y", "z"} {
		if seldom(r, 2) {
			l = append(l, field(4*r.Intn(2), name, someType(r)))
		}
	}
	r.Shuffle(len(l), func(i, j int) { l[i], l[j] = l[j], l[i] })
	return l
}

// putMethod puts a method in, if the class has none of that name and signature.
func putMethod(c *api.Class, m api.Method) {
	if !slices.ContainsFunc(c.Methods, func(n api.Method) bool { return n.Name == m.Name && desc.Same(n.Sig, m.Sig) }) {
		c.Methods = append(c.Methods, m)
	}
}

func someMethod(r *rand.Rand, flags int) api.Method {
	name, s := of(r, "f", "f", "g"), someSig(r)
	if flags == api.FFace || flags == api.FAbstract && seldom(r, 2) {
		return owes(name, s)
	}
	if seldom(r, 4) {
		return does(0, "<init>", of(r, "()V", "(I)V"))
	}
	m := does(0, name, s)
	if seldom(r, 5) {
		m.Flags = api.FStatic
	}
	if seldom(r, 8) {
		m.Handlers = []api.Handler{{To: 2, Class: of(r, "Throwable", "A", "HeapError", "I")}}
	}
	return m
}

// upward is one of the names behind the one told, as a rule, so that there are no circles; seldom any other one.
func upward(r *rand.Rand, l []string, name string, others ...string) string {
	if seldom(r, 60) {
		return of(r, "A", "B", "I", "J", "None", name)
	}
	return of(r, append(slices.Clone(others), l[slices.Index(l, name)+1:]...)...)
}

// someClass is one that module.Check takes.
func someClass(r *rand.Rand, name string) api.Class {
	c := api.Class{Name: name, Super: "Object", Flags: 2 * r.Intn(2)}
	faces := someFaces
	if slices.Contains(someFaces, name) {
		c.Flags = api.FFace
		faces = someFaces[slices.Index(someFaces, name)+1:]
	} else {
		c.Super = upward(r, someClasses, name, "Object", "Throwable")
		c.Fields = someFields(r)
	}
	for _, i := range r.Perm(len(faces)) {
		if seldom(r, 3) {
			c.Faces = append(c.Faces, faces[i])
		}
	}
	if x := upward(r, []string{name}, name, "Object"); x != "Object" && !slices.Contains(c.Faces, x) {
		c.Faces = append(c.Faces, x)
	}
	for range r.Intn(4) {
		putMethod(&c, someMethod(r, c.Flags))
	}
	return c
}

// somePool is a pool with something of each kind; seldom it names a class that is not there.
func somePool(r *rand.Rand) []api.Entry {
	b := pool.New()
	b.Text("LNone;")
	b.Number(7)
	if seldom(r, 300) {
		b.Class("None")
	}
	for range r.Intn(4) {
		b.Type(typ(someType(r)))
		b.Field(of(r, someClasses...), "x", typ(someType(r)))
		b.Method(of(r, "A", "I"), "f", sig(someSig(r)))
	}
	return b.Pool()
}

// someModules are modules that may all be added: each name once, seldom one that lacks. Many of them link, as what is owed is, as a rule, put in.
func someModules(r *rand.Rand) []api.Module {
	names := slices.Concat(someClasses, someFaces)
	r.Shuffle(len(names), func(i, j int) { names[i], names[j] = names[j], names[i] })
	if seldom(r, 12) {
		names = names[1:]
	}
	var l []api.Module
	for i, name := range names {
		if i == 0 || seldom(r, 2) {
			l = append(l, api.Module{Pool: somePool(r)})
		}
		m := &l[len(l)-1]
		m.Classes = append(m.Classes, someClass(r, name))
	}
	for n := r.Intn(30); n > 0 && mended(l); n-- {
	}
	return l
}

// mended takes away why modules do not link, if it is a method that is owed or one that may not override, and tells whether it did.
func mended(l []api.Module) bool {
	b := bookOf(l...)
	name, e := b.Link()
	for i := range l {
		for j := range l[i].Classes {
			if c := &l[i].Classes[j]; c.Name == name {
				return mend(b, c, e)
			}
		}
	}
	return false
}

func mend(b *book, c *api.Class, e api.Errno) bool {
	switch e {
	case api.ErrOverride:
		c.Methods = slices.DeleteFunc(c.Methods, func(m api.Method) bool { return m.Name != "<init>" })
	case api.ErrMissing:
		for _, h := range b.owed(c.Name) {
			putMethod(c, does(0, h.Name, text(h.Sig)))
		}
	default:
		return false
	}
	// What was done may have been in vain, where the method that is in the way is not its own.
	return true
}

func text(g api.Sig) string {
	s, _ := desc.SigText(g)
	return s
}

// linkedWorlds calls f with so many random worlds that are linked, and the modules they are made of.
func linkedWorlds(t *testing.T, seed int64, n int, f func(w *hier.World, l []api.Module)) {
	t.Helper()
	r := rand.New(rand.NewSource(seed))
	for n > 0 {
		l := someModules(r)
		w := hier.New()
		for _, m := range l {
			if e := w.Add(m); e != api.OK {
				t.Fatalf("Add: %v: %s", e, image(m, false))
			}
		}
		if _, e := w.Link(); e == api.OK {
			n--
			f(w, l)
		}
	}
}
