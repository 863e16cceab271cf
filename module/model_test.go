package module_test

import (
	"encoding/binary"
	"regexp"
	"slices"
	"testing"

	"keystone/api"
	"keystone/desc"
	"keystone/instr"
	"keystone/module"
	"keystone/pool"
)

// name is what a name is, said another way.
var name = regexp.MustCompile(`\A[A-Za-z_][0-9A-Za-z_]{0,31}\z`).MatchString

// faults are all that is wrong with a module, in the order of P501, each with its numbers.
type faults []module.Bad

// add notes an error where it is met, and tells whether it was.
func (f *faults) add(met bool, class, member, at int, e api.Errno) bool {
	if met {
		*f = append(*f, module.Bad{Class: class, Member: member, At: at, Err: e})
	}
	return met
}

// faultsOf are P501, point by point; where too many of a kind are there they are not gone through.
func faultsOf(m api.Module) faults {
	var f faults
	at, e := pool.Check(m.Pool)
	f.add(e != api.OK, 0, 0, at, e)
	if f.add(len(m.Classes) > 64, 0, 0, 0, api.ErrMany) {
		return f
	}
	for i, c := range m.Classes {
		f.class(i, c, m.Pool)
	}
	for i, c := range m.Classes {
		for _, ahead := range m.Classes[:i] {
			f.add(ahead.Name == c.Name, i, 0, 0, api.ErrTwice)
		}
	}
	return f
}

func (f *faults) class(i int, c api.Class, entries []api.Entry) {
	f.add(c.Flags != 0 && c.Flags != 1 && c.Flags != 2, i, 0, 0, api.ErrFlags)
	f.add(!name(c.Name), i, 0, 0, api.ErrName)
	f.add(!name(c.Super), i, 0, 0, api.ErrName)
	if f.add(len(c.Faces) > 16, i, 0, 0, api.ErrMany) {
		return
	}
	f.add(c.Flags == 1 && c.Super != "Object", i, 0, 0, api.ErrSuper)
	f.add(c.Flags == 1 && len(c.Fields) != 0, i, 0, 0, api.ErrFace)
	for j, s := range c.Faces {
		f.add(!name(s), i, j, 0, api.ErrName)
		f.add(slices.Index(c.Faces, s) < j, i, j, 0, api.ErrTwice)
	}
	if f.add(len(c.Fields) > 64, i, 0, 0, api.ErrMany) {
		return
	}
	for j, x := range c.Fields {
		f.field(i, j, c.Fields, x)
	}
	if f.add(len(c.Methods) > 64, i, 0, 0, api.ErrMany) {
		return
	}
	for j, x := range c.Methods {
		f.heading(i, j, c, x)
		if x.Flags == 2 {
			f.add(x.Stack != 0 || x.Locals != 0 || len(x.Code)+len(x.Handlers) > 0, i, j, 0, api.ErrArg)
		} else {
			f.body(i, j, x, entries)
		}
	}
}

func (f *faults) field(i, j int, l []api.Field, x api.Field) {
	f.add(x.Flags != 0 && x.Flags != 4, i, j, 0, api.ErrFlags)
	f.add(!name(x.Name), i, j, 0, api.ErrName)
	e := desc.Check(x.Type)
	f.add(e != api.OK, i, j, 0, e)
	first := slices.IndexFunc(l, func(y api.Field) bool { return x.Name == y.Name })
	f.add(first < j, i, j, 0, api.ErrTwice)
}

func (f *faults) heading(i, j int, c api.Class, x api.Method) {
	f.add(x.Flags != 0 && x.Flags != 2 && x.Flags != 4, i, j, 0, api.ErrFlags)
	f.add(!name(x.Name) && x.Name != "<init>", i, j, 0, api.ErrName)
	text, e := desc.SigText(x.Sig)
	f.add(e != api.OK, i, j, 0, e)
	f.add(len(text) >= 256, i, j, 0, api.ErrLong)
	for _, y := range c.Methods[:j] {
		f.add(x.Name == y.Name && desc.Same(x.Sig, y.Sig), i, j, 0, api.ErrTwice)
	}
	f.add(x.Name == "<init>" && x.Flags != 0, i, j, 0, api.ErrFlags)
	f.add(x.Name == "<init>" && !x.Sig.Void, i, j, 0, api.ErrType)
	f.add(c.Flags == 1 && x.Flags != 2, i, j, 0, api.ErrFace)
	f.add(x.Flags == 2 && c.Flags != 1 && c.Flags != 2, i, j, 0, api.ErrFlags)
}

func (f *faults) body(i, j int, x api.Method, entries []api.Entry) {
	f.add(x.Stack < 0 || x.Stack > 64, i, j, 0, api.ErrArg)
	f.add(x.Locals < 0 || x.Locals > 64, i, j, 0, api.ErrArg)
	own := 1
	if x.Flags == 4 {
		own = 0
	}
	f.add(x.Locals < len(x.Sig.Params)+own, i, j, 0, api.ErrLocal)
	at, e := instr.Check(x.Code, entries, x.Locals)
	f.add(e != api.OK, i, j, at, e)
	if f.add(len(x.Handlers) > 32, i, j, 0, api.ErrMany) {
		return
	}
	l, _, _ := instr.All(x.Code)
	begins := func(at int) bool { return slices.ContainsFunc(l, func(i api.Instr) bool { return i.At == at }) }
	for k, h := range x.Handlers {
		f.add(!begins(h.From) || !begins(h.To) && h.To != len(x.Code) || h.From >= h.To, i, j, k, api.ErrRange)
		f.add(!begins(h.At), i, j, k, api.ErrTarget)
		f.add(!name(h.Class), i, j, k, api.ErrName)
	}
}

// first is the error that is answered; the zero one, if there is none.
func (f faults) first() module.Bad {
	if len(f) == 0 {
		return module.Bad{}
	}
	return f[0]
}

// spelling are a module's bytes, and the places at which its things begin, by what they are; fits is whether all of them find room.
type spelling struct {
	b    []byte
	at   map[string][]int
	all  []int
	fits bool
}

func (s *spelling) put(what string, b ...byte) {
	s.at[what] = append(s.at[what], len(s.b))
	s.all = append(s.all, len(s.b))
	s.b = append(s.b, b...)
}

func (s *spelling) u1(what string, n int) {
	s.fits = s.fits && n == int(uint8(n))
	s.put(what, byte(n))
}

func (s *spelling) u2(what string, n int) {
	s.fits = s.fits && n == int(uint16(n))
	s.put(what, byte(n>>8), byte(n))
}

func (s *spelling) text(what, x string) {
	s.fits = s.fits && len(x) <= 255
	s.put(what, append([]byte{byte(len(x))}, x...)...)
}

// spell writes a module, right or not, as the chapter says it; counts that are too great are written as they are.
func spell(m api.Module) spelling {
	s := spelling{at: map[string][]int{}, fits: true}
	s.put("magic", 0x4B, 0x45, 0x59, 0x31)
	s.u2("entries", len(m.Pool))
	for _, e := range m.Pool {
		s.u1("kind", e.Kind)
		used := api.Entry{Kind: e.Kind}
		switch e.Kind {
		case 1:
			s.text("text", e.Text)
			used.Text = e.Text
		case 2:
			s.put("n", binary.BigEndian.AppendUint64(nil, uint64(e.N))...)
			used.N = e.N
		case 3, 4:
			s.u2("a", e.A)
			used.A = e.A
		case 5, 6:
			s.u2("a", e.A)
			s.u2("b", e.B)
			s.u2("c", e.C)
			used.A, used.B, used.C = e.A, e.B, e.C
		default:
			s.fits = false
		}
		s.fits = s.fits && e == used
	}
	s.u1("classes", len(m.Classes))
	for _, c := range m.Classes {
		s.class(c)
	}
	return s
}

func (s *spelling) class(c api.Class) {
	s.u1("class", c.Flags)
	s.text("name", c.Name)
	s.text("super", c.Super)
	s.u1("faces", len(c.Faces))
	for _, x := range c.Faces {
		s.text("face", x)
	}
	s.u1("fields", len(c.Fields))
	for _, x := range c.Fields {
		text, e := desc.TypeText(x.Type)
		s.fits = s.fits && e == api.OK
		s.u1("field", x.Flags)
		s.text("field's name", x.Name)
		s.text("type", text)
	}
	s.u1("methods", len(c.Methods))
	for _, x := range c.Methods {
		s.method(x)
	}
}

func (s *spelling) method(x api.Method) {
	text, e := desc.SigText(x.Sig)
	s.fits = s.fits && e == api.OK
	s.u1("method", x.Flags)
	s.text("method's name", x.Name)
	s.text("sig", text)
	if x.Flags == 2 {
		s.fits = s.fits && x.Stack == 0 && x.Locals == 0 && len(x.Code)+len(x.Handlers) == 0
		return
	}
	s.u1("stack", x.Stack)
	s.u1("locals", x.Locals)
	s.u2("length", len(x.Code))
	s.put("code", x.Code...)
	s.u1("handlers", len(x.Handlers))
	for _, h := range x.Handlers {
		s.u2("from", h.From)
		s.u2("to", h.To)
		s.u2("at", h.At)
		s.text("handler", h.Class)
	}
}

// scan is a second reader: it panics with the first thing that is wrong.
type scan struct {
	b  []byte
	at int
}

func (s *scan) fail(at int, e api.Errno) { panic(module.Bad{At: at, Err: e}) }

func (s *scan) piece(n int) []byte {
	if len(s.b)-s.at < n {
		s.fail(s.at, api.ErrCut)
	}
	s.at += n
	return s.b[s.at-n : s.at]
}

func (s *scan) u1() int { return int(s.piece(1)[0]) }
func (s *scan) u2() int { return int(binary.BigEndian.Uint16(s.piece(2))) }

func (s *scan) text() string {
	at := s.at
	if n := s.u1(); len(s.b)-s.at < n {
		s.fail(at, api.ErrCut)
	} else {
		return string(s.piece(n))
	}
	return ""
}

func (s *scan) count(n, size, most int) int {
	if n > most {
		s.fail(s.at-size, api.ErrMany)
	}
	return n
}

func (s *scan) entry() (e api.Entry) {
	switch e.Kind = s.u1(); e.Kind {
	case 1:
		e.Text = s.text()
	case 2:
		e.N = int64(binary.BigEndian.Uint64(s.piece(8)))
	case 3, 4:
		e.A = s.u2()
	case 5, 6:
		e.A = s.u2()
		e.B = s.u2()
		e.C = s.u2()
	default:
		s.fail(s.at-1, api.ErrKind)
	}
	return e
}

func (s *scan) class() (c api.Class) {
	c.Flags = s.u1()
	c.Name = s.text()
	c.Super = s.text()
	for range s.count(s.u1(), 1, 16) {
		c.Faces = append(c.Faces, s.text())
	}
	for range s.count(s.u1(), 1, 64) {
		f := api.Field{Flags: s.u1()}
		f.Name = s.text()
		at := s.at
		var e api.Errno
		if f.Type, e = desc.Type(s.text()); e != api.OK {
			s.fail(at, e)
		}
		c.Fields = append(c.Fields, f)
	}
	for range s.count(s.u1(), 1, 64) {
		c.Methods = append(c.Methods, s.method())
	}
	return c
}

func (s *scan) method() (x api.Method) {
	x.Flags = s.u1()
	x.Name = s.text()
	at := s.at
	var e api.Errno
	if x.Sig, e = desc.Sig(s.text()); e != api.OK {
		s.fail(at, e)
	}
	if x.Flags == 2 {
		return x
	}
	x.Stack = s.u1()
	x.Locals = s.u1()
	x.Code = slices.Clone(s.piece(s.u2()))
	for range s.count(s.u1(), 1, 32) {
		h := api.Handler{From: s.u2()}
		h.To = s.u2()
		h.At = s.u2()
		h.Class = s.text()
		x.Handlers = append(x.Handlers, h)
	}
	return x
}

// scanned is P502: the module that bytes spell, or the first error.
func scanned(b []byte) (m api.Module, bad module.Bad) {
	if len(b) > 262144 {
		return m, module.Bad{Err: api.ErrLong}
	}
	defer func() {
		if x, ok := recover().(module.Bad); ok {
			m, bad = api.Module{}, x
		}
	}()
	s := scan{b: b}
	if string(s.piece(4)) != "KEY1" {
		s.fail(0, api.ErrMagic)
	}
	for range s.count(s.u2(), 2, 4096) {
		m.Pool = append(m.Pool, s.entry())
	}
	for range s.count(s.u1(), 1, 64) {
		m.Classes = append(m.Classes, s.class())
	}
	if s.at < len(b) {
		s.fail(s.at, api.ErrMore)
	}
	if bad = faultsOf(m).first(); bad.Err != api.OK {
		m = api.Module{}
	}
	return m, bad
}

// isBad holds an error against what is wanted: a *Bad with those numbers, or nil.
func isBad(t *testing.T, what string, err error, want module.Bad) {
	t.Helper()
	if want.Err == api.OK {
		if err != nil {
			t.Errorf("%s: %v, wanted none", what, err)
		}
		return
	}
	if bad, ok := err.(*module.Bad); !ok || bad == nil || *bad != want {
		t.Errorf("%s: %v, wanted %v", what, err, &want)
	}
}

// checks holds Check against what is wanted, Write too, which answers that error first, and Read, if the module has bytes at all.
func checks(t *testing.T, what string, m api.Module, want module.Bad) {
	t.Helper()
	isBad(t, what+": Check", module.Check(m), want)
	s := spell(m)
	wrote := want
	if want.Err == api.OK && len(s.b) > 262144 {
		wrote = module.Bad{Err: api.ErrLong}
	}
	b, err := module.Write(m)
	isBad(t, what+": Write", err, wrote)
	if wrote.Err == api.OK && !slices.Equal(b, s.b) || wrote.Err != api.OK && len(b) > 0 {
		t.Errorf("%s: wrote %.200x, wanted %.200x", what, b, s.b)
	}
	if countsFit(m) && s.fits {
		if len(s.b) > 262144 {
			want = module.Bad{Err: api.ErrLong}
		}
		reads(t, what, s.b, m, want)
	}
}

// countsFit is whether a module's numbers of things are such as Read takes.
func countsFit(m api.Module) bool {
	if len(m.Pool) > 4096 || len(m.Classes) > 64 {
		return false
	}
	for _, c := range m.Classes {
		if len(c.Faces) > 16 || len(c.Fields) > 64 || len(c.Methods) > 64 {
			return false
		}
		for _, x := range c.Methods {
			if len(x.Handlers) > 32 {
				return false
			}
		}
	}
	return true
}

// reads holds Read against what is wanted: an error and nothing beside it, or that module, and no other bytes are written for it.
func reads(t *testing.T, what string, b []byte, m api.Module, want module.Bad) {
	t.Helper()
	x, err := module.Read(b)
	isBad(t, what+": Read", err, want)
	if want.Err != api.OK {
		m = api.Module{}
	}
	if image(x, false) != image(m, false) || module.Same(x, m) != true {
		t.Errorf("%s: read %.300s, wanted %.300s", what, image(x, false), image(m, false))
	}
	if err == nil {
		again, err := module.Write(x)
		if err != nil || !slices.Equal(again, b) {
			t.Errorf("%s: written again: %v", what, err)
		}
	}
}
