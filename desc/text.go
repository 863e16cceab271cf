package desc

import (
	"slices"
	"strings"

	"keystone/api"
)

// Type reads a type, TypeText writes one; Sig, SigText a signature.
func Type(s string) (api.Type, api.Errno) {
	t, rest, ok := first(s)
	if !ok || rest != "" {
		return api.Type{}, api.ErrType
	}
	return t, api.OK
}

// first reads the type with which a text begins: it, and what stands behind it.
func first(s string) (t api.Type, rest string, ok bool) {
	var end int
begin:
	if s == "" || t.Dims > api.MaxDims {
		goto wrong
	}
	switch s[0] {
	case '[':
		t.Dims++
		s = s[1:]
		goto begin
	case 'I':
		return t, s[1:], true
	case 'L':
		goto class
	}
	goto wrong
class:
	end = strings.IndexByte(s, ';')
	if end < 0 || !Name(s[1:end]) {
		goto wrong
	}
	t.Name = s[1:end]
	return t, s[end+1:], true
wrong:
	return api.Type{}, "", false
}

// Sig reads on behind the last type that it keeps: a text that is none is ErrType, however many types it has.
func Sig(s string) (api.Sig, api.Errno) {
	var g api.Sig
	var t api.Type
	var many int
	rest, ok := strings.CutPrefix(s, "(")
	if !ok {
		goto wrong
	}
param:
	if strings.HasPrefix(rest, ")") {
		goto result
	}
	if t, rest, ok = first(rest); !ok {
		goto wrong
	}
	if many++; many <= api.MaxParams {
		g.Params = append(g.Params, t)
	}
	goto param
result:
	if rest = rest[1:]; rest == "V" {
		g.Void = true
		goto done
	}
	if g.Result, rest, ok = first(rest); !ok || rest != "" {
		goto wrong
	}
done:
	if many > api.MaxParams {
		return api.Sig{}, api.ErrMany
	}
	return g, api.OK
wrong:
	return api.Sig{}, api.ErrType
}

func TypeText(t api.Type) (string, api.Errno) {
	if e := Check(t); e != api.OK {
		return "", e
	}
	return texts(t), api.OK
}

func SigText(g api.Sig) (string, api.Errno) {
	if e := checkSig(g); e != api.OK {
		return "", e
	}
	result := "V"
	if !g.Void {
		result = texts(g.Result)
	}
	return "(" + texts(g.Params...) + ")" + result, api.OK
}

// texts writes right types, one behind the other.
func texts(l ...api.Type) string {
	var b strings.Builder
	for _, t := range l {
		b.WriteString(strings.Repeat("[", t.Dims))
		if t.Name == "" {
			b.WriteByte('I')
		} else {
			b.WriteString("L" + t.Name + ";")
		}
	}
	return b.String()
}

// checkSig is here so that Make need not write a text to know SigText's error.
func checkSig(g api.Sig) api.Errno {
	if len(g.Params) > api.MaxParams {
		return api.ErrMany
	}
	for _, t := range g.Params {
		if e := Check(t); e != api.OK {
			return e
		}
	}
	if g.Void && g.Result != (api.Type{}) {
		return api.ErrArg
	}
	return Check(g.Result)
}

// Same tells whether two signatures are the same; Make makes one of its types, the last one the result.
func Same(a, b api.Sig) bool {
	return a.Void == b.Void && a.Result == b.Result && slices.Equal(a.Params, b.Params)
}

func Make(void bool, l ...api.Type) (api.Sig, api.Errno) {
	g := api.Sig{Params: l, Void: void}
	if !void {
		last := len(l) - 1
		if last < 0 {
			return api.Sig{}, api.ErrNone
		}
		g.Params, g.Result = l[:last], l[last]
	}
	if e := checkSig(g); e != api.OK {
		return api.Sig{}, e
	}
	// The types are the caller's: only a copy of them is handed out.
	g.Params = slices.Clone(g.Params)
	return g, api.OK
}
