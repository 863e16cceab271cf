package module_test

import (
	"math/rand"
	"reflect"
	"testing"

	"keystone/api"
	"keystone/module"
)

// same holds Same, both ways about, against what is wanted.
func same(t *testing.T, what string, a, b api.Module, want bool) {
	t.Helper()
	if x, y := module.Same(a, b), module.Same(b, a); x != want || y != want {
		t.Errorf("%s: %v, %v, wanted %v", what, x, y, want)
	}
}

// others calls f with each module that differs from the full one in one thing: a number, a text, a bool, an element more or less. Path tells where.
func others(f func(path string, m api.Module)) {
	var paths []string
	var walk func(path string, v reflect.Value, visit func(path string, v reflect.Value))
	walk = func(path string, v reflect.Value, visit func(path string, v reflect.Value)) {
		switch v.Kind() {
		case reflect.Struct:
			for i := range v.NumField() {
				walk(path+"."+v.Type().Field(i).Name, v.Field(i), visit)
			}
			return
		case reflect.Slice:
			for i := range v.Len() {
				walk(path+"."+string(rune('a'+i)), v.Index(i), visit)
			}
		}
		visit(path, v)
	}
	all := full()
	walk("", reflect.ValueOf(&all).Elem(), func(path string, v reflect.Value) {
		paths = append(paths, path)
		if v.Kind() == reflect.Slice {
			paths = append(paths, path+"-")
		}
	})
	for _, p := range paths {
		m := full()
		walk("", reflect.ValueOf(&m).Elem(), func(path string, v reflect.Value) {
			switch {
			case path+"-" == p && v.Len() > 0:
				v.Set(v.Slice(0, v.Len()-1))
			case path+"-" == p || path == p:
				differ(v)
			}
		})
		f(p, m)
	}
}

func differ(v reflect.Value) {
	switch v.Kind() {
	case reflect.Int, reflect.Int64:
		v.SetInt(v.Int() + 1)
	case reflect.Uint8:
		v.SetUint(v.Uint() ^ 128)
	case reflect.String:
		v.SetString(v.String() + "x")
	case reflect.Bool:
		v.SetBool(!v.Bool())
	case reflect.Slice:
		v.Set(reflect.Append(v, reflect.Zero(v.Type().Elem())))
	}
}

// P504: modules that differ in one thing, whatever it is, right or not, are not the same.
func TestSame(t *testing.T) {
	same(t, "full", full(), full(), true)
	same(t, "none", api.Module{}, api.Module{}, true)
	same(t, "full and none", full(), api.Module{}, false)
	n := 0
	others(func(path string, m api.Module) {
		n++
		same(t, path, m, full(), false)
		same(t, path, m, m, true)
		same(t, path, module.Twin(m), m, true)
	})
	if n < 200 {
		t.Errorf("only %d others", n)
	}
}

// P504: the order of things counts.
func TestSameInOrder(t *testing.T) {
	m := full()
	m.Classes[0], m.Classes[1] = m.Classes[1], m.Classes[0]
	same(t, "classes", m, full(), false)
	m = full()
	m.Pool[0], m.Pool[1] = m.Pool[1], m.Pool[0]
	same(t, "entries", m, full(), false)
	m = full()
	m.Classes[1].Faces = []string{"H", "F"}
	same(t, "faces", m, full(), false)
	m = full()
	x := m.Classes[1].Methods
	x[1], x[2] = x[2], x[1]
	same(t, "methods", m, full(), false)
}

// P504, P2: lists that are nil and such as are empty are the same, everywhere.
func TestSameOfEmptyLists(t *testing.T) {
	empty := func() api.Module {
		return api.Module{Pool: []api.Entry{}, Classes: []api.Class{{Faces: []string{}, Fields: make([]api.Field, 0, 3), Methods: []api.Method{{Sig: api.Sig{Params: []api.Type{}}, Code: make([]byte, 0, 3), Handlers: []api.Handler{}}}}}}
	}
	none := api.Module{Classes: []api.Class{{Methods: []api.Method{{}}}}}
	same(t, "empty", empty(), none, true)
	same(t, "twins", module.Twin(empty()), module.Twin(none), true)
	same(t, "no classes", api.Module{Classes: []api.Class{}}, api.Module{}, true)
	same(t, "one class", none, api.Module{}, false)
}

// P504: a twin is the same, all of it, and shares nothing: neither with the first one nor with itself.
func TestTwin(t *testing.T) {
	r := rand.New(rand.NewSource(504))
	for i := range 500 {
		m := someModule(r)
		for range i % 3 {
			wound(r, &m)
		}
		m = roomy(m)
		was := image(m, true)
		x := module.Twin(m)
		if image(x, false) != image(m, false) || image(m, true) != was {
			t.Fatalf("%s, was %s", image(x, false), was)
		}
		if shared(m, x) {
			t.Fatalf("%s: shared", was)
		}
		spoil(x)
		if image(m, true) != was {
			t.Fatalf("%s, was %s", image(m, true), was)
		}
	}
	if x := module.Twin(api.Module{}); len(x.Pool) != 0 || len(x.Classes) != 0 {
		t.Errorf("%v", x)
	}
}
