package desc_test

import (
	"slices"
	"strings"
	"testing"

	"keystone/api"
	"keystone/desc"
)

// equal is written out here, so that Sig is not held against Same.
func equal(a, b api.Sig) bool {
	return a.Void == b.Void && a.Result == b.Result && slices.Equal(a.Params, b.Params)
}

// none is no signature: what stands beside an error.
func none(g api.Sig) bool { return len(g.Params) == 0 && !g.Void && g.Result == api.Type{} }

// sigReads is a signature's text that is read as that one, and the other way about: P204, P206.
func sigReads(t *testing.T, s string, want api.Sig) {
	t.Helper()
	if g, e := desc.Sig(s); !equal(g, want) || e != api.OK {
		t.Errorf("%q: %v, %v, wanted %v", s, g, e, want)
	}
	if text, e := desc.SigText(want); text != s || e != api.OK {
		t.Errorf("%v: %q, %v, wanted %q", want, text, e, s)
	}
}

func sigRefused(t *testing.T, s string, want api.Errno) {
	t.Helper()
	if g, e := desc.Sig(s); !none(g) || e != want {
		t.Errorf("%.80q: %v, %v, wanted %v", s, g, e, want)
	}
}

// numbers is so many numbers' types.
func numbers(n int) []api.Type { return make([]api.Type, n) }

// P204, P206.
func TestSigTexts(t *testing.T) {
	a, row := api.Type{Name: "A"}, api.Type{Dims: 1}
	deep := api.Type{Dims: 8, Name: strings.Repeat("x", api.MaxName)}
	deepText := "[[[[[[[[L" + strings.Repeat("x", api.MaxName) + ";"
	sigReads(t, "()V", api.Sig{Void: true})
	sigReads(t, "()I", api.Sig{})
	sigReads(t, "()LV;", api.Sig{Result: api.Type{Name: "V"}})
	sigReads(t, "(I)V", api.Sig{Params: numbers(1), Void: true})
	sigReads(t, "(I)I", api.Sig{Params: numbers(1)})
	sigReads(t, "(I[ILA;)V", api.Sig{Params: []api.Type{{}, row, a}, Void: true})
	sigReads(t, "(LA;[II)[LA;", api.Sig{Params: []api.Type{a, row, {}}, Result: api.Type{Dims: 1, Name: "A"}})
	sigReads(t, "(LA;LA;)LA;", api.Sig{Params: []api.Type{a, a}, Result: a})
	sigReads(t, "("+deepText+")"+deepText, api.Sig{Params: []api.Type{deep}, Result: deep})
	sigReads(t, "("+strings.Repeat(deepText, 16)+")"+deepText, api.Sig{Params: slices.Repeat([]api.Type{deep}, 16), Result: deep})
	for n := range api.MaxParams + 1 {
		sigReads(t, "("+strings.Repeat("I", n)+")V", api.Sig{Params: numbers(n), Void: true})
		sigReads(t, "("+strings.Repeat("I", n)+")[I", api.Sig{Params: numbers(n), Result: row})
	}
}

// P204: texts that are no signature's.
func TestSigRefused(t *testing.T) {
	for _, s := range []string{
		"", " ", "(", ")", "()", "V", "I", "I)V", ")V", "(I", "(I)", "(IV", "()VV", "()VI", "()IV", "()II", "()[V", "()[",
		"(V)V", "(IV)V", "([)V", "([V)V", "(L;)V", "(LA)V", "(LA)V;", "(L1;)I", "(1)V", "(I,I)V", "(I I)V", "( )V",
		"()V ", " ()V", "() V", "()v", "()LA", "()L;", "()L1;", "()LA;;", "()()V", "(()V)V", "(())V", "()V()V", "((I)V", "()V\x00", "[]V",
		"(" + strings.Repeat("[", 9) + "I)V", "()" + strings.Repeat("[", 9) + "I",
		"(L" + strings.Repeat("x", api.MaxName+1) + ";)V", "()L" + strings.Repeat("x", api.MaxName+1) + ";",
	} {
		sigRefused(t, s, api.ErrType)
	}
}

// P204, P6: too many types are told only of a text that is a signature's but for that.
func TestSigOfManyTypes(t *testing.T) {
	for _, n := range []int{17, 18, 32, 33, 256, 257, 272, 1 << 16} {
		for _, one := range []string{"I", "[I", "LA;", "[[LNode;"} {
			l := strings.Repeat(one, n)
			sigRefused(t, "("+l+")V", api.ErrMany)
			sigRefused(t, "("+l+")I", api.ErrMany)
			for _, s := range []string{"(" + l, "(" + l + ")", "(" + l + ")VV", "(" + l + "V)V", "(" + l + "[)V", "(" + l + ")L1;", l + ")V", "(" + l + ")V "} {
				sigRefused(t, s, api.ErrType)
			}
		}
	}
}

// P204: SigText's errors, in their order.
func TestSigTextOfWrongSigs(t *testing.T) {
	arg, name := api.Type{Dims: 9}, api.Type{Name: "1"}
	for _, c := range []struct {
		g    api.Sig
		want api.Errno
	}{
		{api.Sig{Params: numbers(17)}, api.ErrMany},
		{api.Sig{Params: numbers(17), Void: true}, api.ErrMany},
		{api.Sig{Params: append(numbers(16), name), Void: true, Result: arg}, api.ErrMany},
		{api.Sig{Params: append([]api.Type{arg}, numbers(16)...), Result: name}, api.ErrMany},
		{api.Sig{Params: []api.Type{name}}, api.ErrName},
		{api.Sig{Params: []api.Type{arg}}, api.ErrArg},
		{api.Sig{Params: []api.Type{{}, name, arg}}, api.ErrName},
		{api.Sig{Params: []api.Type{{}, arg, name}}, api.ErrArg},
		{api.Sig{Params: append(numbers(15), name)}, api.ErrName},
		{api.Sig{Params: []api.Type{{Dims: 9, Name: "1"}}}, api.ErrArg},
		{api.Sig{Params: []api.Type{name}, Void: true, Result: arg}, api.ErrName},
		{api.Sig{Params: []api.Type{name}, Result: arg}, api.ErrName},
		{api.Sig{Void: true, Result: api.Type{Dims: 1}}, api.ErrArg},
		{api.Sig{Void: true, Result: api.Type{Name: "A"}}, api.ErrArg},
		{api.Sig{Void: true, Result: name}, api.ErrArg},
		{api.Sig{Void: true, Result: arg}, api.ErrArg},
		{api.Sig{Result: name}, api.ErrName},
		{api.Sig{Result: arg}, api.ErrArg},
		{api.Sig{Result: api.Type{Dims: -1}}, api.ErrArg},
		{api.Sig{Params: numbers(16), Result: name}, api.ErrName},
	} {
		if s, e := desc.SigText(c.g); s != "" || e != c.want {
			t.Errorf("%v: %q, %v, wanted %v", c.g, s, e, c.want)
		}
	}
}

// P204, P206: every short text is read or refused as the pattern says, and what is read is written again as it was.
func TestEveryShortSig(t *testing.T) {
	right := whole(`\((?:` + typePattern + `)*\)(?:V|` + typePattern + `)`)
	taken := 0
	rows([]string{"(", ")", "()", "I", "V", "[", "LA;", "L", ";"}, 6, func(s string) {
		if !right(s) {
			sigRefused(t, s, api.ErrType)
			return
		}
		taken++
		g, e := desc.Sig(s)
		text, f := desc.SigText(g)
		again, h := desc.Sig(text)
		if e != api.OK || text != s || f != api.OK || !equal(g, again) || h != api.OK || g.Void != strings.HasSuffix(s, ")V") {
			t.Errorf("%q: %v, %v, %q, %v", s, g, e, text, f)
		}
	})
	if taken < 50 {
		t.Errorf("only %d texts were signatures", taken)
	}
}

// unlike is signatures of which no two are the same, right or not.
func unlike() []api.Sig {
	a, b := api.Type{Name: "A"}, api.Type{Name: "B"}
	return []api.Sig{
		{},
		{Void: true},
		{Result: a},
		{Result: api.Type{Dims: 1, Name: "A"}},
		{Params: []api.Type{a}},
		{Params: []api.Type{b}},
		{Params: []api.Type{{Dims: 1, Name: "A"}}},
		{Params: []api.Type{a}, Void: true},
		{Params: []api.Type{a}, Result: b},
		{Params: []api.Type{a, b}},
		{Params: []api.Type{b, a}},
		{Params: []api.Type{a, a}},
		{Params: numbers(1)},
		{Params: numbers(16)},
		{Params: numbers(17)},
		{Params: append(numbers(16), a)},
		{Void: true, Result: a},
		{Void: true, Result: b},
		{Result: api.Type{Dims: -1}},
		{Result: api.Type{Name: "1"}},
		{Params: []api.Type{{Dims: 9, Name: "1"}}},
		{Params: []api.Type{{Dims: 9, Name: "1"}}, Void: true, Result: api.Type{Dims: 9}},
	}
}

// P204: the same are those of which all is the same, wherever it stands in memory.
func TestSame(t *testing.T) {
	for i, a := range unlike() {
		for j, b := range unlike() {
			if desc.Same(a, b) != (i == j) {
				t.Errorf("%v, %v: %v", a, b, desc.Same(a, b))
			}
		}
	}
	for _, a := range [][]api.Type{nil, {}, make([]api.Type, 0, 3)} {
		for _, b := range [][]api.Type{nil, {}, make([]api.Type, 0, 3)} {
			if !desc.Same(api.Sig{Params: a, Void: true}, api.Sig{Params: b, Void: true}) || desc.Same(api.Sig{Params: a}, api.Sig{Params: numbers(1)}) {
				t.Errorf("%v, %v", a, b)
			}
		}
	}
}

// P204: Make takes the last type as the result, unless the signature is void.
func TestMake(t *testing.T) {
	a, row := api.Type{Name: "A"}, api.Type{Dims: 1}
	for _, c := range []struct {
		void bool
		l    []api.Type
		want api.Sig
	}{
		{true, nil, api.Sig{Void: true}},
		{true, []api.Type{}, api.Sig{Void: true}},
		{true, []api.Type{a}, api.Sig{Params: []api.Type{a}, Void: true}},
		{true, []api.Type{a, row}, api.Sig{Params: []api.Type{a, row}, Void: true}},
		{true, numbers(16), api.Sig{Params: numbers(16), Void: true}},
		{false, []api.Type{{}}, api.Sig{}},
		{false, []api.Type{a}, api.Sig{Result: a}},
		{false, []api.Type{a, row, {}}, api.Sig{Params: []api.Type{a, row}}},
		{false, append(numbers(16), row), api.Sig{Params: numbers(16), Result: row}},
	} {
		if g, e := desc.Make(c.void, c.l...); !equal(g, c.want) || e != api.OK {
			t.Errorf("%v, %v: %v, %v, wanted %v", c.void, c.l, g, e, c.want)
		}
	}
}

// P204: Make's errors are ErrNone and those of SigText.
func TestMakeOfWrongTypes(t *testing.T) {
	arg, name := api.Type{Dims: 9}, api.Type{Name: "1"}
	for _, c := range []struct {
		void bool
		l    []api.Type
		want api.Errno
	}{
		{false, nil, api.ErrNone},
		{false, []api.Type{}, api.ErrNone},
		{true, numbers(17), api.ErrMany},
		{false, numbers(18), api.ErrMany},
		{true, append(numbers(16), arg), api.ErrMany},
		{false, append(numbers(17), name), api.ErrMany},
		{true, numbers(1 << 16), api.ErrMany},
		{true, []api.Type{{}, name, arg}, api.ErrName},
		{true, []api.Type{arg, name}, api.ErrArg},
		{false, []api.Type{name, arg}, api.ErrName},
		{false, []api.Type{arg, name}, api.ErrArg},
		{false, []api.Type{name}, api.ErrName},
		{false, []api.Type{arg}, api.ErrArg},
		{false, append(numbers(16), name), api.ErrName},
		{true, []api.Type{{Dims: -1}}, api.ErrArg},
	} {
		if g, e := desc.Make(c.void, c.l...); !none(g) || e != c.want {
			t.Errorf("%v, %v: %v, %v, wanted %v", c.void, c.l, g, e, c.want)
		}
	}
}

// P206: every signature that Make makes is the one that its text is read as.
func TestMadeIsReadAgain(t *testing.T) {
	kinds := []api.Type{{}, {Dims: 1}, {Dims: 8}, {Name: "I"}, {Dims: 2, Name: "Node"}, {Dims: 8, Name: strings.Repeat("x", api.MaxName)}}
	for _, void := range []bool{false, true} {
		for _, a := range kinds {
			for _, b := range kinds {
				for _, c := range kinds {
					g, e := desc.Make(void, a, b, c)
					s, f := desc.SigText(g)
					again, h := desc.Sig(s)
					if e != api.OK || f != api.OK || h != api.OK || !desc.Same(g, again) || !equal(g, again) {
						t.Errorf("%v: %q, %v, %v, %v, %v", g, s, again, e, f, h)
					}
				}
			}
		}
	}
}
