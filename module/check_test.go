package module_test

import (
	"bytes"
	"math"
	"math/rand"
	"strconv"
	"strings"
	"testing"

	"keystone/api"
	"keystone/module"
)

// fault is something that is done to the full module, and what is to be told of it.
type fault struct {
	what string
	do   func(m *api.Module)
	want module.Bad
}

// each holds faults, one by one, against what is wanted.
func each(t *testing.T, l []fault) {
	t.Helper()
	for _, f := range l {
		m := full()
		f.do(&m)
		checks(t, f.what, m, f.want)
	}
}

// names are so many, none twice.
func names(n int) []string {
	var l []string
	for i := range n {
		l = append(l, "n"+strconv.Itoa(i))
	}
	return l
}

// classes are so many, without anything.
func classes(n int) []api.Class {
	var l []api.Class
	for _, s := range names(n) {
		l = append(l, api.Class{Name: s, Super: "Object"})
	}
	return l
}

func fields(n int) []api.Field {
	var l []api.Field
	for _, s := range names(n) {
		l = append(l, api.Field{Name: s})
	}
	return l
}

func methods(n int) []api.Method {
	var l []api.Method
	for _, s := range names(n) {
		l = append(l, api.Method{Flags: api.FStatic, Name: s, Sig: api.Sig{Void: true}, Code: []byte{api.IReturn}})
	}
	return l
}

func handlers(n int) []api.Handler {
	var l []api.Handler
	for _, s := range names(n) {
		l = append(l, api.Handler{From: 0, To: 8, At: 3, Class: s})
	}
	return l
}

// P501: what is right.
func TestCheckRight(t *testing.T) {
	checks(t, "none", api.Module{}, module.Bad{})
	checks(t, "full", full(), module.Bad{})
	for _, n := range []int{1, 2, 63, 64} {
		checks(t, "classes", api.Module{Classes: classes(n)}, module.Bad{})
	}
	each(t, []fault{
		{"faces", func(m *api.Module) { m.Classes[1].Faces = names(16) }, module.Bad{}},
		{"own face", func(m *api.Module) { m.Classes[1].Faces = []string{"A"} }, module.Bad{}},
		{"fields", func(m *api.Module) { m.Classes[1].Fields = fields(64) }, module.Bad{}},
		{"methods", func(m *api.Module) { m.Classes[1].Methods = methods(64) }, module.Bad{}},
		{"handlers", func(m *api.Module) { m.Classes[1].Methods[1].Handlers = handlers(32) }, module.Bad{}},
		{"one handler twice", func(m *api.Module) {
			h := m.Classes[1].Methods[1].Handlers
			h[1] = h[0]
		}, module.Bad{}},
		{"stack, locals", func(m *api.Module) { m.Classes[1].Methods[1].Stack, m.Classes[1].Methods[1].Locals = 64, 64 }, module.Bad{}},
		{"no stack", func(m *api.Module) { m.Classes[1].Methods[1].Stack = 0 }, module.Bad{}},
		{"static, no locals", func(m *api.Module) {
			m.Classes[1].Methods[2].Sig.Params = nil
			m.Classes[1].Methods[2].Locals = 0
		}, module.Bad{}},
		{"a class above itself", func(m *api.Module) { m.Classes[1].Super = "A" }, module.Bad{}},
		{"a field named as a method", func(m *api.Module) { m.Classes[1].Fields[0].Name = "f" }, module.Bad{}},
		{"a class named Object", func(m *api.Module) { m.Classes[1].Name = "Object" }, module.Bad{}},
		{"an abstract class with a static method", func(m *api.Module) {
			m.Classes[2].Methods[1].Flags = api.FStatic
		}, module.Bad{}},
		{"constructors", func(m *api.Module) {
			x := m.Classes[1].Methods[0]
			x.Sig.Params = []api.Type{{}}
			x.Locals = 2
			m.Classes[1].Methods = append(m.Classes[1].Methods, x)
		}, module.Bad{}},
		{"code", func(m *api.Module) { m.Classes[1].Methods[2].Code = make([]byte, 1024) }, module.Bad{}},
		{"a signature of 255 bytes", func(m *api.Module) { long(m, 12) }, module.Bad{}},
	})
}

// long gives a method a signature whose text has 243 bytes and so many as the last one's name.
func long(m *api.Module, n int) {
	x := &m.Classes[1].Methods[2]
	x.Sig = api.Sig{Void: true}
	for range 7 {
		x.Sig.Params = append(x.Sig.Params, api.Type{Name: strings.Repeat("x", 32)})
	}
	x.Sig.Params = append(x.Sig.Params, api.Type{Name: strings.Repeat("y", n)})
	x.Locals = 8
}

// P501, 1: the pool's errors, at their entries; too many classes.
func TestCheckPool(t *testing.T) {
	each(t, []fault{
		{"kind", func(m *api.Module) { m.Pool[3].Kind = 9 }, module.Bad{At: 3, Err: api.ErrKind}},
		{"no kind", func(m *api.Module) { m.Pool[0].Kind = 0 }, module.Bad{At: 0, Err: api.ErrKind}},
		{"what is not used", func(m *api.Module) { m.Pool[1].A = 1 }, module.Bad{At: 1, Err: api.ErrArg}},
		{"a long text", func(m *api.Module) { m.Pool[0].Text = strings.Repeat("x", 256) }, module.Bad{At: 0, Err: api.ErrLong}},
		{"an entry", func(m *api.Module) { m.Pool[3].A = 99 }, module.Bad{At: 3, Err: api.ErrEntry}},
		{"a name", func(m *api.Module) { m.Pool[2].Text = "1" }, module.Bad{At: 3, Err: api.ErrName}},
		{"the last", func(m *api.Module) { m.Pool = append(m.Pool, api.Entry{}) }, module.Bad{At: len(full().Pool), Err: api.ErrKind}},
	})
	text := api.Entry{Kind: api.CText}
	for _, n := range []int{4095, 4096} {
		checks(t, "many entries", api.Module{Pool: repeated(text, n)}, module.Bad{})
	}
	for _, n := range []int{4097, 70000} {
		checks(t, "too many entries", api.Module{Pool: repeated(text, n), Classes: classes(65)}, module.Bad{At: 4096, Err: api.ErrMany})
	}
	for _, n := range []int{65, 66, 256, 70000} {
		l := classes(n)
		l[0].Flags = 9
		checks(t, "too many classes", api.Module{Classes: l}, module.Bad{Err: api.ErrMany})
		checks(t, "and a pool", api.Module{Pool: []api.Entry{text, {}}, Classes: l}, module.Bad{At: 1, Err: api.ErrKind})
	}
}

func repeated[T any](x T, n int) []T {
	l := make([]T, n)
	for i := range l {
		l[i] = x
	}
	return l
}

// P501, 2: a class's flags: 0, an interface's, an abstract one's, and no other.
func TestCheckFlags(t *testing.T) {
	for _, n := range []int{math.MinInt, -1, 3, 4, 5, 6, 7, 8, 255, 256, 257, math.MaxInt} {
		checks(t, "class", api.Module{Classes: []api.Class{{Name: "A", Super: "Object"}, {Flags: n, Name: "1"}}}, module.Bad{Class: 1, Err: api.ErrFlags})
	}
	for _, n := range []int{math.MinInt, -1, 1, 2, 3, 5, 6, 7, 8, 255, 256, 260, math.MaxInt} {
		each(t, []fault{{"field", func(m *api.Module) { m.Classes[1].Fields[1] = api.Field{Flags: n} }, module.Bad{Class: 1, Member: 1, Err: api.ErrFlags}}})
	}
	for _, n := range []int{math.MinInt, -1, 1, 3, 5, 6, 7, 8, 255, 256, 258, 260, math.MaxInt} {
		each(t, []fault{{"method", func(m *api.Module) { m.Classes[1].Methods[2] = api.Method{Flags: n} }, module.Bad{Class: 1, Member: 2, Err: api.ErrFlags}}})
	}
}

// P501, 2: a class's head.
func TestCheckHead(t *testing.T) {
	for _, s := range []string{"", "1", "<init>", "a b", "[A", "\xff", strings.Repeat("x", 33), strings.Repeat("x", 255), strings.Repeat("x", 300)} {
		each(t, []fault{
			{"name", func(m *api.Module) { m.Classes[2].Name = s }, module.Bad{Class: 2, Err: api.ErrName}},
			{"super", func(m *api.Module) { m.Classes[2].Super = s }, module.Bad{Class: 2, Err: api.ErrName}},
			{"an interface's super", func(m *api.Module) { m.Classes[0].Super = s }, module.Bad{Class: 0, Err: api.ErrName}},
			{"face", func(m *api.Module) { m.Classes[1].Faces[1] = s }, module.Bad{Class: 1, Member: 1, Err: api.ErrName}},
			{"face twice, but no name", func(m *api.Module) { m.Classes[1].Faces = []string{"F", s, s} }, module.Bad{Class: 1, Member: 1, Err: api.ErrName}},
			{"field", func(m *api.Module) { m.Classes[1].Fields[1].Name = s }, module.Bad{Class: 1, Member: 1, Err: api.ErrName}},
		})
		if s != "<init>" {
			each(t, []fault{{"method", func(m *api.Module) { m.Classes[1].Methods[1].Name = s }, module.Bad{Class: 1, Member: 1, Err: api.ErrName}}})
		}
	}
	some := []api.Field{{Name: "x"}}
	each(t, []fault{
		{"faces", func(m *api.Module) { m.Classes[1].Faces = names(17) }, module.Bad{Class: 1, Err: api.ErrMany}},
		{"faces ahead of super", func(m *api.Module) { m.Classes[0].Faces, m.Classes[0].Super = names(17), "A" }, module.Bad{Class: 0, Err: api.ErrMany}},
		{"faces ahead of fields", func(m *api.Module) { m.Classes[0].Faces, m.Classes[0].Fields = names(17), some }, module.Bad{Class: 0, Err: api.ErrMany}},
		{"faces without names", func(m *api.Module) { m.Classes[1].Faces = make([]string, 17) }, module.Bad{Class: 1, Err: api.ErrMany}},
		{"super", func(m *api.Module) { m.Classes[0].Super = "F" }, module.Bad{Class: 0, Err: api.ErrSuper}},
		{"super, as a class's", func(m *api.Module) { m.Classes[2].Flags, m.Classes[2].Methods = api.FFace, nil }, module.Bad{Class: 2, Err: api.ErrSuper}},
		{"super ahead of fields", func(m *api.Module) { m.Classes[0].Super, m.Classes[0].Fields = "object", some }, module.Bad{Class: 0, Err: api.ErrSuper}},
		{"an interface's fields", func(m *api.Module) { m.Classes[0].Fields = some }, module.Bad{Class: 0, Err: api.ErrFace}},
		{"an interface's static field", func(m *api.Module) { m.Classes[0].Fields = []api.Field{{Flags: api.FStatic, Name: "x"}} }, module.Bad{Class: 0, Err: api.ErrFace}},
		{"too many of an interface's fields", func(m *api.Module) { m.Classes[0].Fields = fields(65) }, module.Bad{Class: 0, Err: api.ErrFace}},
		{"fields ahead of faces", func(m *api.Module) { m.Classes[0].Fields, m.Classes[0].Faces[0] = some, "1" }, module.Bad{Class: 0, Err: api.ErrFace}},
		{"face twice", func(m *api.Module) { m.Classes[1].Faces = []string{"F", "G", "G", "F"} }, module.Bad{Class: 1, Member: 2, Err: api.ErrTwice}},
		{"face twice, apart", func(m *api.Module) { m.Classes[1].Faces = []string{"F", "G", "H", "F"} }, module.Bad{Class: 1, Member: 3, Err: api.ErrTwice}},
		{"an interface's face twice", func(m *api.Module) { m.Classes[0].Faces = []string{"F", "F"} }, module.Bad{Class: 0, Member: 1, Err: api.ErrTwice}},
		{"faces ahead of fields", func(m *api.Module) { m.Classes[1].Faces[1], m.Classes[1].Fields[0].Flags = "F", 9 }, module.Bad{Class: 1, Member: 1, Err: api.ErrTwice}},
	})
}

// P501, 3: fields.
func TestCheckFields(t *testing.T) {
	each(t, []fault{
		{"many", func(m *api.Module) { m.Classes[1].Fields = fields(65) }, module.Bad{Class: 1, Err: api.ErrMany}},
		{"many, wrong ones", func(m *api.Module) { m.Classes[1].Fields = make([]api.Field, 256) }, module.Bad{Class: 1, Err: api.ErrMany}},
		{"dims", func(m *api.Module) { m.Classes[1].Fields[0].Type.Dims = 9 }, module.Bad{Class: 1, Member: 0, Err: api.ErrArg}},
		{"below 0", func(m *api.Module) { m.Classes[1].Fields[1].Type.Dims = -1 }, module.Bad{Class: 1, Member: 1, Err: api.ErrArg}},
		{"no type", func(m *api.Module) { m.Classes[1].Fields[1].Type.Name = "1" }, module.Bad{Class: 1, Member: 1, Err: api.ErrName}},
		{"type ahead of twice", func(m *api.Module) { m.Classes[1].Fields[1] = api.Field{Name: "x", Type: api.Type{Dims: 9}} }, module.Bad{Class: 1, Member: 1, Err: api.ErrArg}},
		{"twice", func(m *api.Module) { m.Classes[1].Fields[1].Name = "x" }, module.Bad{Class: 1, Member: 1, Err: api.ErrTwice}},
		{"twice, apart", func(m *api.Module) {
			m.Classes[1].Fields = append(fields(63), api.Field{Flags: api.FStatic, Name: "n5"})
		}, module.Bad{Class: 1, Member: 63, Err: api.ErrTwice}},
		{"ahead of methods", func(m *api.Module) { m.Classes[1].Fields[1].Name, m.Classes[1].Methods = "x", methods(65) }, module.Bad{Class: 1, Member: 1, Err: api.ErrTwice}},
	})
}

// P501, 4: what a method is.
func TestCheckMethods(t *testing.T) {
	set := func(i int, do func(x *api.Method)) func(m *api.Module) {
		return func(m *api.Module) { do(&m.Classes[1].Methods[i]) }
	}
	ofFace := func(do func(x *api.Method)) func(m *api.Module) {
		return func(m *api.Module) { do(&m.Classes[0].Methods[1]) }
	}
	each(t, []fault{
		{"many", func(m *api.Module) { m.Classes[1].Methods = methods(65) }, module.Bad{Class: 1, Err: api.ErrMany}},
		{"many, wrong ones", func(m *api.Module) { m.Classes[1].Methods = make([]api.Method, 300) }, module.Bad{Class: 1, Err: api.ErrMany}},
		{"params", set(2, func(x *api.Method) { x.Sig.Params = make([]api.Type, 17) }), module.Bad{Class: 1, Member: 2, Err: api.ErrMany}},
		{"a param", set(2, func(x *api.Method) { x.Sig.Params[1].Name = "1" }), module.Bad{Class: 1, Member: 2, Err: api.ErrName}},
		{"a param's dims", set(1, func(x *api.Method) { x.Sig.Params[0].Dims = 9 }), module.Bad{Class: 1, Member: 1, Err: api.ErrArg}},
		{"void with a result", set(2, func(x *api.Method) { x.Sig.Result.Dims = 1 }), module.Bad{Class: 1, Member: 2, Err: api.ErrArg}},
		{"a result", set(1, func(x *api.Method) { x.Sig.Result.Name = "[" }), module.Bad{Class: 1, Member: 1, Err: api.ErrName}},
		{"256 bytes", func(m *api.Module) { long(m, 13) }, module.Bad{Class: 1, Member: 2, Err: api.ErrLong}},
		{"many bytes", func(m *api.Module) { long(m, 32) }, module.Bad{Class: 1, Member: 2, Err: api.ErrLong}},
		{"long ahead of twice", func(m *api.Module) {
			long(m, 13)
			m.Classes[1].Methods = append(m.Classes[1].Methods, m.Classes[1].Methods[2])
		}, module.Bad{Class: 1, Member: 2, Err: api.ErrLong}},
		{"twice", func(m *api.Module) { m.Classes[1].Methods = append(m.Classes[1].Methods, m.Classes[1].Methods[1]) }, module.Bad{Class: 1, Member: 3, Err: api.ErrTwice}},
		{"twice, one static", set(2, func(x *api.Method) { x.Sig, x.Locals = full().Classes[1].Methods[1].Sig, 9 }), module.Bad{Class: 1, Member: 2, Err: api.ErrTwice}},
		{"constructors twice", set(2, func(x *api.Method) { x.Name, x.Flags, x.Sig = "<init>", api.FStatic, api.Sig{Void: true} }), module.Bad{Class: 1, Member: 2, Err: api.ErrTwice}},
		{"constructor, static", set(0, func(x *api.Method) { x.Flags = api.FStatic }), module.Bad{Class: 1, Member: 0, Err: api.ErrFlags}},
		{"constructor, abstract", func(m *api.Module) { m.Classes[2].Methods[0].Name = "<init>" }, module.Bad{Class: 2, Member: 0, Err: api.ErrFlags}},
		{"constructor, not void", set(0, func(x *api.Method) { x.Sig.Void = false }), module.Bad{Class: 1, Member: 0, Err: api.ErrType}},
		{"constructor, static and not void", set(0, func(x *api.Method) { x.Sig.Void, x.Flags = false, api.FStatic }), module.Bad{Class: 1, Member: 0, Err: api.ErrFlags}},
		{"an interface's constructor", ofFace(func(x *api.Method) { x.Name, x.Flags = "<init>", 0 }), module.Bad{Class: 0, Member: 1, Err: api.ErrFace}},
		{"an interface's constructor, not void", ofFace(func(x *api.Method) { x.Name, x.Flags, x.Sig.Void = "<init>", 0, false }), module.Bad{Class: 0, Member: 1, Err: api.ErrType}},
		{"an interface's constructor, abstract", ofFace(func(x *api.Method) { x.Name = "<init>" }), module.Bad{Class: 0, Member: 1, Err: api.ErrFlags}},
		{"an interface's method with code", ofFace(func(x *api.Method) { x.Flags, x.Locals, x.Code = 0, 1, []byte{api.IReturn} }), module.Bad{Class: 0, Member: 1, Err: api.ErrFace}},
		{"an interface's static method", ofFace(func(x *api.Method) { x.Flags = api.FStatic }), module.Bad{Class: 0, Member: 1, Err: api.ErrFace}},
		{"abstract, in a class", set(1, func(x *api.Method) { x.Flags = api.FAbstract }), module.Bad{Class: 1, Member: 1, Err: api.ErrFlags}},
		{"abstract with a stack", ofFace(func(x *api.Method) { x.Stack = 1 }), module.Bad{Class: 0, Member: 1, Err: api.ErrArg}},
		{"abstract with locals", ofFace(func(x *api.Method) { x.Locals = 1 }), module.Bad{Class: 0, Member: 1, Err: api.ErrArg}},
		{"abstract, below 0", ofFace(func(x *api.Method) { x.Locals = -1 }), module.Bad{Class: 0, Member: 1, Err: api.ErrArg}},
		{"abstract with code", ofFace(func(x *api.Method) { x.Code = []byte{255} }), module.Bad{Class: 0, Member: 1, Err: api.ErrArg}},
		{"abstract with handlers", ofFace(func(x *api.Method) { x.Handlers = handlers(33) }), module.Bad{Class: 0, Member: 1, Err: api.ErrArg}},
		{"abstract in an abstract class, with code", func(m *api.Module) { m.Classes[2].Methods[0].Code = []byte{0} }, module.Bad{Class: 2, Member: 0, Err: api.ErrArg}},
	})
}

// P501, 4: what a method has.
func TestCheckBodies(t *testing.T) {
	set := func(do func(x *api.Method)) func(m *api.Module) {
		return func(m *api.Module) { do(&m.Classes[1].Methods[1]) }
	}
	bad := func(at int, e api.Errno) module.Bad { return module.Bad{Class: 1, Member: 1, At: at, Err: e} }
	for _, n := range []int{math.MinInt, -1, 65, 66, 255, 256, math.MaxInt} {
		each(t, []fault{
			{"stack", set(func(x *api.Method) { x.Stack = n }), bad(0, api.ErrArg)},
			{"locals", set(func(x *api.Method) { x.Locals = n }), bad(0, api.ErrArg)},
			{"both, and no code", set(func(x *api.Method) { x.Stack, x.Locals, x.Code = n, 0, nil }), bad(0, api.ErrArg)},
		})
	}
	each(t, []fault{
		{"locals, too few", set(func(x *api.Method) { x.Locals = 1 }), bad(0, api.ErrLocal)},
		{"no locals", set(func(x *api.Method) { x.Locals, x.Code = 0, nil }), bad(0, api.ErrLocal)},
		{"locals of a static one, too few", func(m *api.Module) { m.Classes[1].Methods[2].Locals = 1 }, module.Bad{Class: 1, Member: 2, Err: api.ErrLocal}},
		{"locals, enough, but not for its code", set(func(x *api.Method) { x.Locals = 2 }), bad(3, api.ErrLocal)},
		{"no code", set(func(x *api.Method) { x.Code = nil }), bad(0, api.ErrEnd)},
		{"long code", set(func(x *api.Method) { x.Code = make([]byte, 1025) }), bad(0, api.ErrLong)},
		{"longest code", set(func(x *api.Method) { x.Code = make([]byte, 65535) }), bad(0, api.ErrLong)},
		{"longer code", set(func(x *api.Method) { x.Code = make([]byte, 65536) }), bad(0, api.ErrLong)},
		{"no operation", set(func(x *api.Method) { x.Code[7] = 46 }), bad(7, api.ErrOp)},
		{"code that is cut", set(func(x *api.Method) { x.Code = x.Code[:6] }), bad(5, api.ErrCut)},
		{"a jump", set(func(x *api.Method) { x.Code[0] = api.IJump }), bad(0, api.ErrTarget)},
		{"an entry", set(func(x *api.Method) { x.Code[2] = 0 }), bad(0, api.ErrEntry)},
		{"an entry of another pool", func(m *api.Module) { m.Pool = nil }, module.Bad{Class: 1, Member: 0, At: 2, Err: api.ErrEntry}},
		{"code ahead of handlers", set(func(x *api.Method) { x.Code[7], x.Handlers = 46, handlers(33) }), bad(7, api.ErrOp)},
	})
}

// P501, 4: handlers; the instructions of the method stand at 0, 3, 5, 7, and its code ends at 8.
func TestCheckHandlers(t *testing.T) {
	set := func(h ...api.Handler) func(m *api.Module) {
		return func(m *api.Module) { m.Classes[1].Methods[1].Handlers = h }
	}
	bad := func(at int, e api.Errno) module.Bad { return module.Bad{Class: 1, Member: 1, At: at, Err: e} }
	fine := api.Handler{From: 0, To: 8, At: 7, Class: "E"}
	each(t, []fault{
		{"many", set(handlers(33)...), bad(0, api.ErrMany)},
		{"many, wrong ones", set(make([]api.Handler, 256)...), bad(0, api.ErrMany)},
		{"the last one's class", set(append(handlers(31), api.Handler{From: 0, To: 8})...), bad(31, api.ErrName)},
		{"range ahead of the rest", set(fine, api.Handler{From: 0, To: 0, At: 1}), bad(1, api.ErrRange)},
		{"target ahead of the class", set(fine, fine, api.Handler{From: 0, To: 3, At: 1}), bad(2, api.ErrTarget)},
		{"the first one", set(fine, api.Handler{From: 0, To: 3, At: 1, Class: "E"}, api.Handler{From: 1, To: 3, Class: "E"}), bad(1, api.ErrTarget)},
	})
	places := []int{math.MinInt, -1, 0, 1, 2, 3, 4, 5, 6, 7, 8, 9, 256, 65535, 65536, math.MaxInt}
	begins := map[int]struct{}{0: {}, 3: {}, 5: {}, 7: {}}
	for _, from := range places {
		for _, to := range places {
			_, first := begins[from]
			_, last := begins[to]
			want := module.Bad{}
			if !first || !last && to != 8 || from >= to {
				want = bad(1, api.ErrRange)
			}
			each(t, []fault{{"range", set(fine, api.Handler{From: from, To: to, At: 3, Class: "E"}), want}})
		}
		want := module.Bad{}
		if _, ok := begins[from]; !ok {
			want = bad(1, api.ErrTarget)
		}
		each(t, []fault{{"target", set(fine, api.Handler{From: 3, To: 5, At: from, Class: "E"}), want}})
	}
	for _, s := range []string{"", "1", "<init>", "[I", strings.Repeat("x", 33), strings.Repeat("x", 256)} {
		each(t, []fault{{"class", set(fine, api.Handler{From: 3, To: 5, At: 0, Class: s}), bad(1, api.ErrName)}})
	}
}

// P501, 5: the names of classes; whatever is wrong inside one comes ahead.
func TestCheckNames(t *testing.T) {
	each(t, []fault{
		{"twice", func(m *api.Module) { m.Classes[2].Name = "F" }, module.Bad{Class: 2, Err: api.ErrTwice}},
		{"thrice", func(m *api.Module) { m.Classes[1].Name, m.Classes[2].Name = "F", "F" }, module.Bad{Class: 1, Err: api.ErrTwice}},
		{"twice, and a later class", func(m *api.Module) { m.Classes[1].Name, m.Classes[2].Methods[1].Handlers = "F", make([]api.Handler, 1) }, module.Bad{Class: 2, Member: 1, Err: api.ErrRange}},
	})
	l := classes(64)
	l[63].Name = "n31"
	checks(t, "the last", api.Module{Classes: l}, module.Bad{Class: 63, Err: api.ErrTwice})
	l[40].Name = "n39"
	checks(t, "ahead of the last", api.Module{Classes: l}, module.Bad{Class: 40, Err: api.ErrTwice})
}

// P501, P6: what is wrong with a class, all of it, comes ahead of what is wrong with a later one.
func TestCheckClassByClass(t *testing.T) {
	each(t, []fault{
		{"a method, then a head", func(m *api.Module) { m.Classes[1].Methods[1].Stack, m.Classes[2].Flags = 65, 9 }, module.Bad{Class: 1, Member: 1, Err: api.ErrArg}},
		{"a handler, then a field", func(m *api.Module) {
			m.Classes[1].Methods[1].Handlers[1].At = 1
			m.Classes[2].Fields = make([]api.Field, 65)
		}, module.Bad{Class: 1, Member: 1, At: 1, Err: api.ErrTarget}},
		{"a field, then a name", func(m *api.Module) { m.Classes[1].Fields[1].Name, m.Classes[2].Name = "", "" }, module.Bad{Class: 1, Member: 1, Err: api.ErrName}},
		{"a late thing of a member, then an early one", func(m *api.Module) {
			m.Classes[1].Methods[1].Handlers[1].Class = ""
			m.Classes[1].Methods[2].Flags = 9
		}, module.Bad{Class: 1, Member: 1, At: 1, Err: api.ErrName}},
		{"the pool, then all others", func(m *api.Module) { m.Pool[1].Kind, m.Classes[0].Flags = 0, 9 }, module.Bad{At: 1, Err: api.ErrKind}},
	})
}

// P501: modules with some wounds, held against the faults of which the promise speaks, each of which must have been met.
func TestCheckOfWounds(t *testing.T) {
	r := rand.New(rand.NewSource(501))
	met := map[api.Errno]int{}
	for range 8000 {
		m := someModule(r)
		for range r.Intn(4) {
			wound(r, &m)
		}
		want := faultsOf(m).first()
		met[want.Err]++
		isBad(t, "Check", module.Check(m), want)
		s := spell(m)
		if countsFit(m) && s.fits {
			reads(t, "wounds", s.b, m, want)
		}
		b, err := module.Write(m)
		isBad(t, "Write", err, want)
		if want.Err == api.OK && !bytes.Equal(b, s.b) || want.Err != api.OK && len(b) > 0 {
			t.Errorf("%x, wanted %x", b, s.b)
		}
		if t.Failed() {
			t.Fatalf("%s", image(m, false))
		}
	}
	for _, e := range []api.Errno{api.OK, api.ErrArg, api.ErrKind, api.ErrMany, api.ErrLong, api.ErrName, api.ErrType, api.ErrEntry, api.ErrOp, api.ErrCut, api.ErrTarget, api.ErrRange, api.ErrTwice, api.ErrFlags, api.ErrSuper, api.ErrFace, api.ErrLocal, api.ErrEnd} {
		if met[e] == 0 {
			t.Errorf("%v was not met", e)
		}
	}
}
