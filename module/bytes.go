package module

import (
	"keystone/api"
	"keystone/cursor"
	"keystone/desc"
)

// magic are the bytes with which every module begins.
const magic = "KEY1"

func Read(b []byte) (api.Module, error) {
	if len(b) > api.MaxModule {
		return api.Module{}, &Bad{Err: api.ErrLong}
	}
	s := source{Reader: cursor.NewReader(b)}
	m := s.module()
	if err := s.fault(); err != nil {
		return api.Module{}, err
	}
	if err := Check(m); err != nil {
		return api.Module{}, err
	}
	return m, nil
}

// source is a reader of modules: bytes that are cut are its reader's error; bad is whatever else was wrong first.
type source struct {
	*cursor.Reader
	bad *Bad
}

func (s *source) fine() bool { return s.bad == nil && s.Err() == api.OK }

// refuse keeps the first error only: what is read behind it, or behind the end, means nothing.
func (s *source) refuse(at int, e api.Errno) {
	if s.fine() {
		s.bad = &Bad{At: at, Err: e}
	}
}

// fault is what was wrong first; a reader whose bytes were cut stays at the thing that is not whole.
func (s *source) fault() error {
	if s.fine() {
		return nil
	}
	if s.bad == nil {
		return &Bad{At: s.At(), Err: s.Err()}
	}
	return s.bad
}

func (s *source) module() api.Module {
	if string(s.Bytes(len(magic))) != magic {
		s.refuse(0, api.ErrMagic)
	}
	m := api.Module{
		Pool:    rows(s, s.U2, api.MaxPool, s.entry),
		Classes: rows(s, s.U1, api.MaxClasses, s.class),
	}
	if s.Left() > 0 {
		s.refuse(s.At(), api.ErrMore)
	}
	return m
}

// rows reads how many things there are, and these, till something is wrong.
func rows[T any](s *source, count func() int, most int, read func() T) []T {
	at := s.At()
	n := count()
	if n > most {
		s.refuse(at, api.ErrMany)
	}
	var l []T
	for len(l) < n && s.fine() {
		l = append(l, read())
	}
	return l
}

// spelled reads a thing that is told by a text; what is wrong with it is wrong from the text's length on.
func spelled[T any](s *source, read func(string) (T, api.Errno)) T {
	at := s.At()
	x, e := read(s.Text())
	if e != api.OK {
		s.refuse(at, e)
	}
	return x
}

func (s *source) entry() api.Entry {
	at := s.At()
	e := api.Entry{Kind: s.U1()}
	switch e.Kind {
	case api.CText:
		e.Text = s.Text()
	case api.CNumber:
		e.N = s.N8()
	case api.CClass, api.CType:
		e.A = s.U2()
	case api.CField, api.CMethod:
		e.A, e.B, e.C = s.U2(), s.U2(), s.U2()
	default:
		s.refuse(at, api.ErrKind)
	}
	return e
}

func (s *source) class() api.Class {
	return api.Class{
		Flags:   s.U1(),
		Name:    s.Text(),
		Super:   s.Text(),
		Faces:   rows(s, s.U1, api.MaxFaces, s.Text),
		Fields:  rows(s, s.U1, api.MaxFields, s.field),
		Methods: rows(s, s.U1, api.MaxMethods, s.method),
	}
}

func (s *source) field() api.Field {
	return api.Field{Flags: s.U1(), Name: s.Text(), Type: spelled(s, desc.Type)}
}

func (s *source) method() api.Method {
	m := api.Method{Flags: s.U1(), Name: s.Text(), Sig: spelled(s, desc.Sig)}
	if m.Flags != api.FAbstract {
		m.Stack, m.Locals = s.U1(), s.U1()
		m.Code = s.Bytes(s.U2())
		m.Handlers = rows(s, s.U1, api.MaxHandlers, s.handler)
	}
	return m
}

func (s *source) handler() api.Handler {
	return api.Handler{From: s.U2(), To: s.U2(), At: s.U2(), Class: s.Text()}
}

func Write(m api.Module) ([]byte, error) {
	if err := Check(m); err != nil {
		return nil, err
	}
	t := target{Writer: cursor.NewWriter()}
	t.module(m)
	if t.Len() > api.MaxModule {
		return nil, &Bad{Err: api.ErrLong}
	}
	// Of a module that Check took each part finds room in its bytes, so there is no error.
	b, _ := t.Done()
	return b, nil
}

// target is a writer of modules that Check took.
type target struct{ *cursor.Writer }

func (t target) module(m api.Module) {
	t.Bytes([]byte(magic)...)
	t.U2(len(m.Pool))
	for _, e := range m.Pool {
		t.entry(e)
	}
	t.U1(len(m.Classes))
	for _, c := range m.Classes {
		t.class(c)
	}
}

func (t target) entry(e api.Entry) {
	t.U1(e.Kind)
	switch e.Kind {
	case api.CText:
		t.Text(e.Text)
	case api.CNumber:
		t.N8(e.N)
	case api.CClass, api.CType:
		t.U2(e.A)
	case api.CField, api.CMethod:
		t.U2(e.A, e.B, e.C)
	}
}

func (t target) class(c api.Class) {
	t.U1(c.Flags)
	t.Text(c.Name, c.Super)
	t.U1(len(c.Faces))
	t.Text(c.Faces...)
	t.U1(len(c.Fields))
	for _, f := range c.Fields {
		t.field(f)
	}
	t.U1(len(c.Methods))
	for _, m := range c.Methods {
		t.method(m)
	}
}

func (t target) field(f api.Field) {
	text, _ := desc.TypeText(f.Type)
	t.U1(f.Flags)
	t.Text(f.Name, text)
}

func (t target) method(m api.Method) {
	text, _ := desc.SigText(m.Sig)
	t.U1(m.Flags)
	t.Text(m.Name, text)
	if m.Flags == api.FAbstract {
		return
	}
	t.U1(m.Stack, m.Locals)
	t.U2(len(m.Code))
	t.Bytes(m.Code...)
	t.U1(len(m.Handlers))
	for _, h := range m.Handlers {
		t.U2(h.From, h.To, h.At)
		t.Text(h.Class)
	}
}
