package module_test

import (
	"bytes"
	"math/rand"
	"slices"
	"strings"
	"testing"

	"keystone/api"
	"keystone/module"
)

// refused holds Read of bytes that are none against the error, at its place.
func refused(t *testing.T, what string, b []byte, at int, e api.Errno) {
	t.Helper()
	reads(t, what, b, api.Module{}, module.Bad{At: at, Err: e})
}

// put is bytes with one of them another.
func put(b []byte, at int, x byte) []byte {
	b = bytes.Clone(b)
	b[at] = x
	return b
}

// retext is bytes with the text at a place another.
func retext(b []byte, at int, s string) []byte {
	return slices.Concat(b[:at], []byte{byte(len(s))}, []byte(s), b[at+1+int(b[at]):])
}

// P502: the bytes of a module, up to each of their places: cut at the thing that is not whole.
func TestReadCut(t *testing.T) {
	s := spell(full())
	for n := range len(s.b) {
		at := 0
		for _, begin := range s.all {
			if begin <= n {
				at = begin
			}
		}
		refused(t, "cut", s.b[:n], at, api.ErrCut)
	}
	reads(t, "whole", s.b, full(), module.Bad{})
}

// P502: the first four bytes; where there are fewer they are cut, whatever they are.
func TestReadMagic(t *testing.T) {
	for _, s := range []string{"KEY2", "KEY0....", "key1\x00\x00\x00", "AEY1\x00\x00\x00", "K\x00Y1\x10\x01", "KEX1\x00", "1YEK\x00\x00\x00", "\x00\x00\x00\x00\x00\x00\x00"} {
		refused(t, s, []byte(s), 0, api.ErrMagic)
	}
	for _, s := range []string{"", "K", "KE", "KEY", "X", "XYZ", "\x00\x00\x00"} {
		refused(t, s, []byte(s), 0, api.ErrCut)
	}
	refused(t, "KEY1", []byte("KEY1"), 4, api.ErrCut)
}

// P502: kinds of entries.
func TestReadKinds(t *testing.T) {
	s := spell(full())
	for _, at := range s.at["kind"] {
		for _, kind := range []byte{0, 7, 8, 65, 255} {
			refused(t, "kind", put(s.b, at, kind), at, api.ErrKind)
			refused(t, "kind at the end", put(s.b, at, kind)[:at+1], at, api.ErrKind)
		}
	}
}

// P502: numbers of things that are too great, of all six, at their places; the most there may be is taken, and what lacks behind is cut.
func TestReadMany(t *testing.T) {
	s := spell(full())
	for what, most := range map[string]int{"classes": 64, "faces": 16, "fields": 64, "methods": 64, "handlers": 32} {
		for _, at := range s.at[what] {
			for _, n := range []int{most + 1, most + 2, 128, 255} {
				refused(t, what, put(s.b, at, byte(n)), at, api.ErrMany)
				refused(t, what+" at the end", put(s.b, at, byte(n))[:at+1], at, api.ErrMany)
			}
			refused(t, what+", just as many", put(s.b, at, byte(most))[:at+1], at+1, api.ErrCut)
		}
	}
	for _, n := range []int{4097, 4098, 32768, 65535} {
		b := put(put(s.b, 4, byte(n>>8)), 5, byte(n))
		refused(t, "entries", b, 4, api.ErrMany)
		refused(t, "entries at the end", b[:6], 4, api.ErrMany)
	}
	refused(t, "entries, just as many", []byte("KEY1\x10\x00"), 6, api.ErrCut)
}

// P502: texts of types and signatures, from their lengths on.
func TestReadTexts(t *testing.T) {
	s := spell(full())
	for _, at := range s.at["type"] {
		for _, x := range []string{"", "X", "II", "V", "L;", "L1;", "LA", "[", "[[[[[[[[[I", "()V", "I\x00", strings.Repeat("I", 255)} {
			refused(t, "type "+x, retext(s.b, at, x), at, api.ErrType)
			refused(t, "type "+x+" at the end", retext(s.b, at, x)[:at+1+len(x)], at, api.ErrType)
		}
	}
	for _, at := range s.at["sig"] {
		for _, x := range []string{"", "V", "()", "()VV", "(V)V", "(I", "I", "(L;)V", "()L1;", "([)V", strings.Repeat("(", 255)} {
			refused(t, "sig "+x, retext(s.b, at, x), at, api.ErrType)
		}
		for _, x := range []string{"(" + strings.Repeat("I", 17) + ")V", "(" + strings.Repeat("[I", 100) + ")[LA;"} {
			refused(t, "sig "+x, retext(s.b, at, x), at, api.ErrMany)
			refused(t, "sig "+x+" at the end", retext(s.b, at, x)[:at+1+len(x)], at, api.ErrMany)
		}
	}
}

// P502: what is left behind the module comes behind all that is wrong with its bytes, and ahead of what is wrong with the module.
func TestReadMore(t *testing.T) {
	s := spell(full())
	for _, tail := range []string{"\x00", "\xff", "KEY1\x00\x00\x00", string(s.b)} {
		refused(t, "more", append(bytes.Clone(s.b), tail...), len(s.b), api.ErrMore)
	}
	m := full()
	m.Pool[1] = api.Entry{Kind: api.CClass, A: 999}
	m.Classes[2].Name = "F"
	wrong := spell(m)
	reads(t, "wrong", wrong.b, m, module.Bad{At: 1, Err: api.ErrEntry})
	refused(t, "wrong and more", append(bytes.Clone(wrong.b), 0), len(wrong.b), api.ErrMore)
	refused(t, "wrong and cut", wrong.b[:len(wrong.b)-1], wrong.all[len(wrong.all)-1], api.ErrCut)
	at := wrong.at["sig"][3]
	refused(t, "wrong and a text", append(retext(wrong.b, at, "?"), 0), at, api.ErrType)
}

// P502: what a byte says is read, whatever it is; Check tells then what is wrong.
func TestReadThenCheck(t *testing.T) {
	s := spell(full())
	check := func(what string, b []byte, want module.Bad) {
		t.Helper()
		reads(t, what, b, api.Module{}, want)
	}
	check("class's flags", put(s.b, s.at["class"][2], 255), module.Bad{Class: 2, Err: api.ErrFlags})
	check("field's flags", put(s.b, s.at["field"][1], 2), module.Bad{Class: 1, Member: 1, Err: api.ErrFlags})
	check("method's flags", put(s.b, s.at["method"][3], 6), module.Bad{Class: 1, Member: 1, Err: api.ErrFlags})
	check("stack", put(s.b, s.at["stack"][1], 65), module.Bad{Class: 1, Member: 1, Err: api.ErrArg})
	check("locals", put(s.b, s.at["locals"][2], 255), module.Bad{Class: 1, Member: 2, Err: api.ErrArg})
	check("code", put(s.b, s.at["code"][3], 255), module.Bad{Class: 2, Member: 1, Err: api.ErrOp})
	check("handler's from", put(s.b, s.at["from"][1], 255), module.Bad{Class: 1, Member: 1, At: 1, Err: api.ErrRange})
	check("name", retext(s.b, s.at["name"][2], "A"), module.Bad{Class: 2, Err: api.ErrTwice})
	check("no name", retext(s.b, s.at["name"][2], ""), module.Bad{Class: 2, Err: api.ErrName})
	check("long name", retext(s.b, s.at["super"][0], strings.Repeat("x", 255)), module.Bad{Class: 0, Err: api.ErrName})
	check("face", retext(s.b, s.at["face"][2], "F"), module.Bad{Class: 1, Member: 1, Err: api.ErrTwice})
	check("an entry's text", retext(s.b, s.at["text"][1], "0"), module.Bad{At: 3, Err: api.ErrName})
}

// P502: an abstract method's bytes end with its signature; others go on.
func TestReadAbstract(t *testing.T) {
	head := "KEY1\x00\x00\x01\x02\x01A\x06Object\x00\x00\x01"
	x := api.Method{Flags: api.FAbstract, Name: "f", Sig: api.Sig{Void: true}}
	m := api.Module{Classes: []api.Class{{Flags: api.FAbstract, Name: "A", Super: "Object", Methods: []api.Method{x}}}}
	reads(t, "abstract", []byte(head+"\x02\x01f\x03()V"), m, module.Bad{})
	refused(t, "abstract with a body", []byte(head+"\x02\x01f\x03()V\x00\x01\x00\x01\x2a\x00"), len(head)+7, api.ErrMore)
	for _, flags := range []string{"\x00", "\x04", "\x06", "\xff"} {
		refused(t, "with no body", []byte(head+flags+"\x01f\x03()V"), len(head)+7, api.ErrCut)
	}
	m.Classes[0].Methods[0] = api.Method{Name: "f", Sig: api.Sig{Void: true}, Locals: 1, Code: []byte{api.IReturn}}
	reads(t, "with a body", []byte(head+"\x00\x01f\x03()V\x00\x01\x00\x01\x2a\x00"), m, module.Bad{})
}

// texts is a module of texts with so many bytes in all.
func texts(size int) api.Module {
	var m api.Module
	for left := size - 7; left > 0; {
		n := min(left, 257)
		if left > 257 && left < 259 {
			n = 200 // so that what is left is an entry, too
		}
		m.Pool = append(m.Pool, api.Entry{Kind: api.CText, Text: strings.Repeat("t", n-2)})
		left -= n
	}
	return m
}

// P502, P503: MaxModule bytes are a module's, one more are none's.
func TestMostBytes(t *testing.T) {
	const most = 262144
	for _, size := range []int{most - 2, most - 1, most} {
		m := texts(size)
		b, err := module.Write(m)
		if len(b) != size || err != nil {
			t.Errorf("%d: %d, %v", size, len(b), err)
		}
		reads(t, "most", spell(m).b, m, module.Bad{})
	}
	for _, size := range []int{most + 1, most + 2, 2 * most} {
		m := texts(size)
		b, err := module.Write(m)
		isBad(t, "too many", err, module.Bad{Err: api.ErrLong})
		if len(b) > 0 || module.Check(m) != nil {
			t.Errorf("%d: %d bytes, %v", size, len(b), module.Check(m))
		}
		refused(t, "too many", spell(m).b, 0, api.ErrLong)
		m.Pool[5] = api.Entry{}
		checks(t, "Check's error first", m, module.Bad{At: 5, Err: api.ErrKind})
	}
	refused(t, "no module", make([]byte, most+1), 0, api.ErrLong)
	refused(t, "no module", make([]byte, most), 0, api.ErrMagic)
	m := texts(most)
	refused(t, "more", append(spell(texts(most-1)).b, 0), most-1, api.ErrMore)
	refused(t, "cut", spell(m).b[:most-1], most-1, api.ErrCut)
}

// P503, P1: as much as Check takes, in all lists at once.
func TestWriteMuch(t *testing.T) {
	m := api.Module{Pool: repeated(api.Entry{Kind: api.CText, Text: strings.Repeat("x", 255)}, 4096), Classes: classes(64)}
	l := methods(64)
	for i := range l {
		l[i].Code, l[i].Handlers = make([]byte, 1024), handlers(32)
	}
	for i := range m.Classes {
		m.Classes[i].Faces, m.Classes[i].Fields, m.Classes[i].Methods = names(16), fields(64), l
	}
	b, err := module.Write(m)
	isBad(t, "much", err, module.Bad{Err: api.ErrLong})
	if len(b) > 0 {
		t.Errorf("%d bytes", len(b))
	}
}

// P502: bytes with some of them others, some lacking, some too many, held against a second reader; each error must have been met.
func TestReadOfWounds(t *testing.T) {
	r := rand.New(rand.NewSource(502))
	met := map[api.Errno]int{}
	for range 15000 {
		b := spell(someModule(r)).b
		for range 1 + r.Intn(2) {
			at := r.Intn(len(b))
			switch r.Intn(6) {
			case 0:
				b = b[:at]
			case 1:
				b = append(b, byte(r.Intn(256)))
			case 2:
				b = slices.Delete(b, at, at+1)
			case 3:
				b = slices.Insert(b, at, byte(r.Intn(8)))
			case 4:
				b[at] = byte(r.Intn(256))
			case 5:
				b[at] += byte(r.Intn(3) - 1)
			}
			if len(b) == 0 {
				break
			}
		}
		m, want := scanned(b)
		met[want.Err]++
		reads(t, "wounds", b, m, want)
		if t.Failed() {
			t.Fatalf("%x", b)
		}
	}
	for _, e := range []api.Errno{api.OK, api.ErrCut, api.ErrMore, api.ErrMagic, api.ErrKind, api.ErrMany, api.ErrType, api.ErrName, api.ErrFlags, api.ErrEntry, api.ErrTwice, api.ErrRange, api.ErrTarget} {
		if met[e] == 0 {
			t.Errorf("%v was not met", e)
		}
	}
}
