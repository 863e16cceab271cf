package module_test

import (
	"bytes"
	"errors"
	"math"
	"math/rand"
	"slices"
	"testing"

	"keystone/api"
	"keystone/module"
)

// The first example of the chapter.
func TestExampleNone(t *testing.T) {
	b := []byte{0x4B, 0x45, 0x59, 0x31, 0, 0, 0}
	reads(t, "none", b, api.Module{}, module.Bad{})
	refused(t, "one less", b[:6], 6, api.ErrCut)
	refused(t, "one more", append(bytes.Clone(b), 0), 7, api.ErrMore)
}

// The second example.
func TestExampleClass(t *testing.T) {
	b := []byte{0x4B, 0x45, 0x59, 0x31, 0, 0, 1, 0, 1, 0x41, 6, 0x4F, 0x62, 0x6A, 0x65, 0x63, 0x74, 0, 0, 0}
	m := api.Module{Classes: []api.Class{{Name: "A", Super: "Object"}}}
	reads(t, "A", b, m, module.Bad{})
	if x, err := module.Write(m); !bytes.Equal(x, b) || err != nil {
		t.Errorf("%x, %v", x, err)
	}
}

// The bytes of the full module, written out, so that nothing that two readers and two writers have in common is taken for granted.
func TestBytesWrittenOut(t *testing.T) {
	m := api.Module{
		Pool: []api.Entry{{Kind: 1, Text: "A"}, {Kind: 3, A: 0}, {Kind: 2, N: -2}, {Kind: 1, Text: "x"}, {Kind: 1, Text: "I"}, {Kind: 5, A: 1, B: 3, C: 4}, {Kind: 4, A: 4}, {Kind: 1, Text: "()V"}, {Kind: 6, A: 1, B: 3, C: 7}},
		Classes: []api.Class{{Flags: 2, Name: "A", Super: "Object", Faces: []string{"F", "Gg"}, Fields: []api.Field{{Name: "x", Type: api.Type{Dims: 1}}, {Flags: 4, Name: "y", Type: api.Type{Name: "A"}}}, Methods: []api.Method{
			{Flags: 2, Name: "f", Sig: api.Sig{Void: true}},
			{Flags: 4, Name: "g", Sig: api.Sig{Params: []api.Type{{}}}, Stack: 2, Locals: 3, Code: []byte{1, 0, 2, 43}, Handlers: []api.Handler{{From: 0, To: 4, At: 3, Class: "E"}}},
		}}},
	}
	b := []byte("KEY1\x00\x09" +
		"\x01\x01A\x03\x00\x00\x02\xff\xff\xff\xff\xff\xff\xff\xfe\x01\x01x\x01\x01I\x05\x00\x01\x00\x03\x00\x04\x04\x00\x04\x01\x03()V\x06\x00\x01\x00\x03\x00\x07" +
		"\x01\x02\x01A\x06Object\x02\x01F\x02Gg\x02\x00\x01x\x02[I\x04\x01y\x03LA;" +
		"\x02\x02\x01f\x03()V\x04\x01g\x04(I)I\x02\x03\x00\x04\x01\x00\x02\x2b\x01\x00\x00\x00\x04\x00\x03\x01E")
	reads(t, "written out", b, m, module.Bad{})
	if x, err := module.Write(m); !bytes.Equal(x, b) || err != nil {
		t.Errorf("%x, %v", x, err)
	}
}

// Bad: its text, what it wraps.
func TestBad(t *testing.T) {
	for _, c := range []struct {
		b    module.Bad
		want string
	}{
		{module.Bad{}, "ok 0.0 0"},
		{module.Bad{Class: 1, Member: 2, At: 3, Err: api.ErrOp}, "op 1.2 3"},
		{module.Bad{At: 262144, Err: api.ErrMore}, "more 0.0 262144"},
		{module.Bad{Class: 63, Err: api.ErrTwice}, "twice 63.0 0"},
		{module.Bad{Class: -1, Member: math.MinInt, At: -30, Err: api.ErrThrown}, "thrown -1.-9223372036854775808 -30"},
		{module.Bad{Err: 999}, "error 0.0 0"},
		{module.Bad{Err: -5}, "error 0.0 0"},
	} {
		if s := c.b.Error(); s != c.want {
			t.Errorf("%q, wanted %q", s, c.want)
		}
		if e := c.b.Unwrap(); e != error(c.b.Err) {
			t.Errorf("%v wraps %v", c.want, e)
		}
	}
}

// Bad: the errors of all calls are asked for by errors.As and errors.Is.
func TestErrorsWrap(t *testing.T) {
	m := full()
	m.Classes[1].Methods[1].Code[7] = 99
	_, write := module.Write(m)
	_, read := module.Read(spell(m).b)
	for _, err := range []error{module.Check(m), write, read} {
		var bad *module.Bad
		var e api.Errno
		if !errors.As(err, &bad) || *bad != (module.Bad{Class: 1, Member: 1, At: 7, Err: api.ErrOp}) || !errors.As(err, &e) || e != api.ErrOp {
			t.Errorf("%v: %v, %v", err, bad, e)
		}
		if !errors.Is(err, api.ErrOp) || errors.Is(err, api.ErrCut) || err.Error() != "op 1.1 7" {
			t.Errorf("%v", err)
		}
	}
}

// Bad: each error is one of its own: what is written to it is seen in no later one.
func TestErrorsAreNew(t *testing.T) {
	m := full()
	m.Classes[2].Flags = 9
	_, long := module.Read(make([]byte, 1<<18+1))
	for _, err := range []error{module.Check(m), long} {
		*err.(*module.Bad) = module.Bad{Class: 7, Member: 7, At: 7}
	}
	isBad(t, "again", module.Check(m), module.Bad{Class: 2, Err: api.ErrFlags})
	refused(t, "again", make([]byte, 1<<18+1), 0, api.ErrLong)
}

// P505: Read of Write is the module, Write of Read the bytes; modules that are not the same have other bytes.
func TestBackAndForth(t *testing.T) {
	r := rand.New(rand.NewSource(505))
	seen := map[string]api.Module{}
	for range 3000 {
		m := someModule(r)
		b, err := module.Write(m)
		if err != nil || !bytes.Equal(b, spell(m).b) {
			t.Fatalf("%v: %s", err, image(m, false))
		}
		reads(t, "back", b, m, module.Bad{})
		if old, ok := seen[string(b)]; ok && !module.Same(old, m) {
			t.Fatalf("%x is two modules", b)
		}
		seen[string(b)] = m
	}
}

// P505: what is read of bytes, whatever was done to them, is written as just these bytes.
func TestNoTwoRowsOfBytes(t *testing.T) {
	b := spell(full()).b
	taken := 0
	for at := range b {
		for x := range 256 {
			c := put(b, at, byte(x))
			m, err := module.Read(c)
			if err != nil {
				continue
			}
			taken++
			again, err := module.Write(m)
			if !bytes.Equal(again, c) || err != nil {
				t.Fatalf("%x is written as %x, %v", c, again, err)
			}
			if module.Same(m, full()) != bytes.Equal(b, c) {
				t.Fatalf("%x is read as another one is", c)
			}
		}
	}
	if taken < 1000 {
		t.Errorf("only %d were taken", taken)
	}
}

// P1, P3, P4: no call panics, whatever it is handed, and handed the same it answers the same; beside an error there is nothing.
func TestNoPanic(t *testing.T) {
	r := rand.New(rand.NewSource(1))
	for range 3000 {
		m := someModule(r)
		for range r.Intn(20) {
			wound(r, &m)
		}
		b, err := module.Write(m)
		c, again := module.Write(m)
		if !bytes.Equal(b, c) || (err == nil) != (again == nil) || err != nil && (err.Error() != again.Error() || len(b) > 0) {
			t.Fatalf("%v, %v: %s", err, again, image(m, false))
		}
		if x := module.Twin(m); !module.Same(x, m) || !module.Same(m, m) {
			t.Fatalf("%s is not the same as itself", image(m, false))
		}
	}
	for range 30000 {
		b := make([]byte, r.Intn(60))
		r.Read(b)
		copy(b, "KEY1\x00\x00\x01\x00\x01A\x06Object"[:r.Intn(18)])
		m, want := scanned(b)
		reads(t, "random", b, m, want)
	}
}

// P2: what is handed in is not changed, its spare room neither.
func TestNothingIsChanged(t *testing.T) {
	r := rand.New(rand.NewSource(2))
	for i := range 600 {
		m := someModule(r)
		for range i % 4 {
			wound(r, &m)
		}
		m = roomy(m)
		was := image(m, true)
		module.Check(m)
		module.Write(m)
		module.Same(m, m)
		if image(m, true) != was {
			t.Fatalf("%s, was %s", image(m, true), was)
		}
		b := append(spell(m).b, 1, 2, 3)
		old := bytes.Clone(b)
		module.Read(b[:len(b)-3])
		module.Read(b[:r.Intn(len(b))])
		if !bytes.Equal(b, old) {
			t.Fatalf("%x, was %x", b, old)
		}
	}
}

// P2: answers are new memory, and no two lists of one share any.
func TestAnswersAreNew(t *testing.T) {
	r := rand.New(rand.NewSource(3))
	for range 300 {
		m := someModule(r)
		was := image(m, true)
		b, _ := module.Write(m)
		c, _ := module.Write(m)
		x, _ := module.Read(b)
		y, _ := module.Read(b)
		if shared(m, b, c, x, y) {
			t.Fatalf("%s: shared", was)
		}
		spoil(x)
		spoil(b)
		if image(y, false) != image(m, false) || !bytes.Equal(c, spell(m).b) || image(m, true) != was {
			t.Fatalf("%s, was %s", image(y, false), was)
		}
	}
}

// P2: nothing of what was handed in is kept.
func TestNothingIsKept(t *testing.T) {
	b := spell(full()).b
	m, _ := module.Read(b)
	spoil(b)
	if image(m, false) != image(full(), false) {
		t.Errorf("%s", image(m, false))
	}
	c, _ := module.Write(m)
	spoil(m)
	if !bytes.Equal(c, spell(full()).b) {
		t.Errorf("%x", c)
	}
}

// P2: no list and an empty one are the same.
func TestNoListIsAnEmptyOne(t *testing.T) {
	for _, b := range [][]byte{nil, {}, make([]byte, 0, 9)} {
		refused(t, "no bytes", b, 0, api.ErrCut)
	}
	empty := api.Module{Pool: []api.Entry{}, Classes: []api.Class{{Flags: 2, Name: "A", Super: "Object", Faces: []string{}, Fields: []api.Field{}, Methods: []api.Method{
		{Flags: 2, Name: "f", Sig: api.Sig{Params: []api.Type{}, Void: true}, Code: []byte{}, Handlers: []api.Handler{}},
		{Flags: 4, Name: "g", Sig: api.Sig{Params: []api.Type{}, Void: true}, Code: []byte{0}, Handlers: []api.Handler{}},
		{Flags: 4, Name: "h", Sig: api.Sig{Void: true}, Code: []byte{0}},
	}}}}
	checks(t, "empty lists", empty, module.Bad{})
	none := module.Twin(empty)
	none.Classes[0].Methods[0].Code = nil
	checks(t, "no lists", none, module.Bad{})
	b, _ := module.Write(empty)
	c, _ := module.Write(none)
	if !slices.Equal(b, c) {
		t.Errorf("%x, %x", b, c)
	}
}
