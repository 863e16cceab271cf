package heap_test

import (
	"slices"

	"keystone/api"
)

// model is a heap by the words of the chapter, with nothing made ready: each question is a walk through classes as they were written, and through all objects.
type model struct {
	classes []api.Class
	most    int
	objects []record
}

// record is an object: its type, and its slots.
type record struct {
	t     api.Type
	slots []slot
}

type slot struct {
	t api.Type
	v api.Value
}

func newModel(l []api.Class, most int) *model {
	m := &model{most: most}
	for i, name := range given() {
		super := "Throwable"
		if i < 2 {
			super = []string{"", "Object"}[i]
		}
		m.classes = append(m.classes, api.Class{Name: name, Super: super})
	}
	m.classes = append(m.classes, l...)
	return m
}

func (m *model) class(name string) (api.Class, bool) {
	for _, c := range m.classes {
		if c.Name == name {
			return c, true
		}
	}
	return api.Class{}, false
}

// layout are the slots of a class's objects.
func (m *model) layout(name string) []slot {
	c, there := m.class(name)
	if !there {
		return nil
	}
	l := m.layout(c.Super)
	for _, f := range c.Fields {
		if f.Flags == 0 {
			l = append(l, slot{f.Type, api.Value{Ref: f.Type != api.Type{}}})
		}
	}
	return l
}

// leads tells whether one comes from a class to another one by Super and Faces, in no step or some.
func (m *model) leads(from, to string) bool {
	c, there := m.class(from)
	if !there {
		return false
	}
	return from == to || m.leads(c.Super, to) || slices.ContainsFunc(c.Faces, func(s string) bool { return m.leads(s, to) })
}

// below is W6.
func (m *model) below(a, b api.Type) bool {
	number := api.Type{}
	switch {
	case a == b:
		return true
	case a == number, b == number:
		return false
	case b == api.Type{Name: "Object"}:
		return true
	}
	return a.Dims == 0 && b.Dims == 0 && m.leads(a.Name, b.Name)
}

func (m *model) right(t api.Type) bool {
	_, there := m.class(t.Name)
	return t.Dims >= 0 && t.Dims <= 8 && (t.Name == "" || there)
}

func (m *model) add(t api.Type, l []slot) (int64, api.Errno) {
	if m.Bytes()+16+8*len(l) > m.most {
		return 0, api.ErrFull
	}
	m.objects = append(m.objects, record{t, l})
	return int64(len(m.objects)), api.OK
}

func (m *model) Make(class string) (int64, api.Errno) {
	c, there := m.class(class)
	if !there || c.Flags == api.FFace || c.Flags == api.FAbstract {
		return 0, api.ErrMember
	}
	return m.add(api.Type{Name: class}, m.layout(class))
}

func (m *model) Array(t api.Type, n int) (int64, api.Errno) {
	if !m.right(t) || t.Dims == 8 {
		return 0, api.ErrType
	}
	if n < 0 || n > 65536 {
		return 0, api.ErrArg
	}
	var l []slot
	for range n {
		l = append(l, slot{t, api.Value{Ref: t != api.Type{}}})
	}
	return m.add(api.Type{Dims: t.Dims + 1, Name: t.Name}, l)
}

// find is an object by its number, counted off.
func (m *model) find(ref int64) (*record, bool) {
	for i := range m.objects {
		if int64(i)+1 == ref {
			return &m.objects[i], true
		}
	}
	return nil, false
}

func (m *model) Type(ref int64) (api.Type, api.Errno) {
	if r, there := m.find(ref); there {
		return r.t, api.OK
	}
	return api.Type{}, api.ErrAddr
}

func (m *model) Len(ref int64) (int, api.Errno) {
	r, there := m.find(ref)
	switch {
	case !there:
		return 0, api.ErrAddr
	case r.t.Dims == 0:
		return 0, api.ErrKind
	}
	return len(r.slots), api.OK
}

func (m *model) Size(ref int64) (int, api.Errno) {
	if r, there := m.find(ref); there {
		return 16 + 8*len(r.slots), api.OK
	}
	return 0, api.ErrAddr
}

func (m *model) place(ref int64, n int) (*slot, api.Errno) {
	r, there := m.find(ref)
	if !there {
		return nil, api.ErrAddr
	}
	for i := range r.slots {
		if i == n {
			return &r.slots[i], api.OK
		}
	}
	return nil, api.ErrArg
}

func (m *model) Get(ref int64, n int) (api.Value, api.Errno) {
	s, e := m.place(ref, n)
	if e != api.OK {
		return api.Value{}, e
	}
	return s.v, api.OK
}

func (m *model) Put(ref int64, n int, v api.Value) api.Errno {
	s, e := m.place(ref, n)
	if e != api.OK {
		return e
	}
	if v.Ref != (s.t != api.Type{}) {
		return api.ErrWrong
	}
	if v.Ref && v.N != 0 {
		r, there := m.find(v.N)
		if !there {
			return api.ErrAddr
		}
		if !m.below(r.t, s.t) {
			return api.ErrWrong
		}
	}
	s.v = v
	return api.OK
}

func (m *model) Bytes() int {
	sum := 0
	for _, r := range m.objects {
		sum += 16 + 8*len(r.slots)
	}
	return sum
}

func (m *model) Count() int { return len(m.objects) }

func (m *model) Reach(l ...int64) []int64 {
	var told []int64
	left := slices.Clone(l)
	for i := 0; ; i++ {
		for _, ref := range left {
			if _, there := m.find(ref); there && !slices.Contains(told, ref) {
				told = append(told, ref)
			}
		}
		if i == len(told) {
			return told
		}
		left = nil
		r, _ := m.find(told[i])
		for _, s := range r.slots {
			if s.t != (api.Type{}) {
				left = append(left, s.v.N)
			}
		}
	}
}
