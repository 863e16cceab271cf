package pool

import (
	"cmp"
	"slices"

	"keystone/api"
	"keystone/desc"
)

// list is entries, a pool or not.
type list []api.Entry

// has tells whether there is an entry of that number and kind.
func (l list) has(i, kind int) bool {
	return i >= 0 && i < len(l) && l[i].Kind == kind
}

// wrong tells what is wrong with an entry; the entries that it uses may be wrong in ways that are their own.
func (l list) wrong(i int) api.Errno {
	e := l[i]
	if e.Kind < api.CText || e.Kind > api.CMethod {
		return api.ErrKind
	}
	if e != used(e) {
		return api.ErrArg
	}
	switch e.Kind {
	case api.CText:
		return tooLong(e.Text)
	case api.CClass:
		return l.wrongName(e.A, desc.Name)
	case api.CType:
		return l.wrongType(e.A)
	case api.CField:
		return cmp.Or(l.wrongClass(e.A), l.wrongName(e.B, desc.Name), l.wrongType(e.C))
	case api.CMethod:
		return cmp.Or(l.wrongClass(e.A), l.wrongName(e.B, desc.Method), l.wrongSig(e.C))
	}
	return api.OK
}

// used is an entry without the fields that its kind does not use.
func used(e api.Entry) api.Entry {
	switch e.Kind {
	case api.CText:
		return api.Entry{Kind: e.Kind, Text: e.Text}
	case api.CNumber:
		return api.Entry{Kind: e.Kind, N: e.N}
	case api.CClass, api.CType:
		return api.Entry{Kind: e.Kind, A: e.A}
	}
	return api.Entry{Kind: e.Kind, A: e.A, B: e.B, C: e.C}
}

func tooLong(s string) api.Errno {
	if len(s) > api.MaxText {
		return api.ErrLong
	}
	return api.OK
}

func (l list) wrongClass(i int) api.Errno {
	if !l.has(i, api.CClass) {
		return api.ErrEntry
	}
	return api.OK
}

func (l list) wrongName(i int, name func(string) bool) api.Errno {
	if !l.has(i, api.CText) {
		return api.ErrEntry
	}
	if !name(l[i].Text) {
		return api.ErrName
	}
	return api.OK
}

func (l list) wrongType(i int) api.Errno {
	if !l.has(i, api.CText) {
		return api.ErrEntry
	}
	_, err := desc.Type(l[i].Text)
	return err
}

func (l list) wrongSig(i int) api.Errno {
	if !l.has(i, api.CText) {
		return api.ErrEntry
	}
	_, err := desc.Sig(l[i].Text)
	return err
}

// right is the entry of that number, if it is of that kind and nothing is wrong with it.
func (l list) right(i, kind int) (api.Entry, api.Errno) {
	if !l.has(i, kind) {
		return api.Entry{}, api.ErrEntry
	}
	if err := l.wrong(i); err != api.OK {
		return api.Entry{}, err
	}
	return l[i], api.OK
}

// member tells a field's or a method's class, name, and the text of its type or signature.
func (l list) member(i, kind int) (class, name, text string, err api.Errno) {
	e, err := l.right(i, kind)
	if err != api.OK {
		return "", "", "", err
	}
	if class, err = Class(l, e.A); err != api.OK {
		return "", "", "", err
	}
	return class, l[e.B].Text, l[e.C].Text, api.OK
}

// put tells the number of the first entry that is this one; if there is none, it is put behind the others.
func (l *list) put(e api.Entry) int {
	if i := slices.Index(*l, e); i >= 0 {
		return i
	}
	*l = append(*l, e)
	return len(*l) - 1
}

func (l *list) putText(s string) int {
	return l.put(api.Entry{Kind: api.CText, Text: s})
}

func (l *list) putClass(name string) int {
	return l.put(api.Entry{Kind: api.CClass, A: l.putText(name)})
}

func (l *list) putMember(kind int, class, name, text string) int {
	e := api.Entry{Kind: kind}
	e.A = l.putClass(class)
	e.B = l.putText(name)
	e.C = l.putText(text)
	return l.put(e)
}

// fit answers a number that was told since there were so many entries; if there are too many now, it takes the new ones back.
func (l *list) fit(had, i int) (int, api.Errno) {
	if len(*l) > api.MaxPool {
		*l = (*l)[:had]
		return 0, api.ErrMany
	}
	return i, api.OK
}
