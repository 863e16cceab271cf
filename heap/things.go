package heap

import (
	"keystone/api"
	"keystone/desc"
)

const (
	headBytes = 16 // of each object, ahead of its slots
	slotBytes = 8
)

func sizeOf(slots int) int { return headBytes + slotBytes*slots }

// body is what objects and arrays both have: what each slot holds. The tag of what a slot holds never changes.
type body []api.Value

func (b body) size() int { return sizeOf(len(b)) }

func (b body) has(slot int) bool { return slot >= 0 && slot < len(b) }

func (b body) get(slot int) api.Value { return b[slot] }

func (b body) put(slot int, v api.Value) { b[slot] = v }

func (b body) all() []api.Value { return b }

// thing is an object or an array: both have the methods of their body.
type thing interface {
	size() int
	has(slot int) bool
	get(slot int) api.Value
	put(slot int, v api.Value)
	all() []api.Value
}

// kind is what all objects of a class share.
type kind struct {
	class  string
	fields []api.Type
}

// blank is the body of an object of that kind at first.
func (k *kind) blank() body {
	b := make(body, len(k.fields))
	for i, t := range k.fields {
		b[i] = blank(t)
	}
	return b
}

// blank is what a slot of a type holds at first: 0, or nil.
func blank(t api.Type) api.Value { return api.Value{Ref: !desc.Number(t)} }

type object struct {
	body
	*kind
}

type array struct {
	body
	element api.Type
}

func typeOf(x thing) api.Type {
	switch x := x.(type) {
	case *object:
		return api.Type{Name: x.class}
	case *array:
		return api.Type{Dims: x.element.Dims + 1, Name: x.element.Name}
	}
	return api.Type{}
}

// slotType is the type of what a slot may hold, which it has.
func slotType(x thing, slot int) api.Type {
	switch x := x.(type) {
	case *object:
		return x.fields[slot]
	case *array:
		return x.element
	}
	return api.Type{}
}

func lenOf(x thing) (int, api.Errno) {
	switch x := x.(type) {
	case *array:
		return len(x.body), api.OK
	}
	return 0, api.ErrKind
}
