package pool

import (
	"slices"

	"keystone/api"
	"keystone/desc"
)

// Builder makes a pool, each entry once.
type Builder struct{ list }

func New(l ...api.Entry) *Builder {
	if _, err := Check(l); err != api.OK {
		return &Builder{}
	}
	return &Builder{slices.Clone(l)}
}

func (b *Builder) Text(s string) (int, api.Errno) {
	if err := tooLong(s); err != api.OK {
		return 0, err
	}
	had := len(b.list)
	return b.fit(had, b.putText(s))
}

func (b *Builder) Number(n int64) (int, api.Errno) {
	had := len(b.list)
	return b.fit(had, b.put(api.Entry{Kind: api.CNumber, N: n}))
}

func (b *Builder) Class(name string) (int, api.Errno) {
	if !desc.Name(name) {
		return 0, api.ErrName
	}
	had := len(b.list)
	return b.fit(had, b.putClass(name))
}

func (b *Builder) Type(t api.Type) (int, api.Errno) {
	text, err := desc.TypeText(t)
	if err != api.OK {
		return 0, err
	}
	had := len(b.list)
	return b.fit(had, b.put(api.Entry{Kind: api.CType, A: b.putText(text)}))
}

func (b *Builder) Field(class, name string, t api.Type) (int, api.Errno) {
	if !desc.Name(class) || !desc.Name(name) {
		return 0, api.ErrName
	}
	text, err := desc.TypeText(t)
	if err != api.OK {
		return 0, err
	}
	had := len(b.list)
	return b.fit(had, b.putMember(api.CField, class, name, text))
}

func (b *Builder) Method(class, name string, g api.Sig) (int, api.Errno) {
	if !desc.Name(class) || !desc.Method(name) {
		return 0, api.ErrName
	}
	text, err := desc.SigText(g)
	if err == api.OK {
		err = tooLong(text)
	}
	if err != api.OK {
		return 0, err
	}
	had := len(b.list)
	return b.fit(had, b.putMember(api.CMethod, class, name, text))
}

func (b *Builder) Pool() []api.Entry { return slices.Clone(b.list) }
