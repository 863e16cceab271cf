package slow_test

import (
	"fmt"
	"math"
	"strings"
	"testing"

	"keystone/api"
)

// P1402: what was done in the heap and to static fields stays, however the run ended.
func TestWhatStays(t *testing.T) {
	does := made("A") + "dup\nload 0\nput A x I\nputs A s LA;\nload 0\nputs A t I\n"
	text := "class M Object\n" +
		"does static ok (I)I\n" + does + "load 0\ngive\n" +
		"does static thrown (I)I\n" + does + "nil\nthrow\n" +
		"does static trap (I)I\n" + does + "add\n" +
		"does static fuel (I)I\n" + does + "again: jump again\n" +
		"does static deep (I)I\n" + does + "again: load 0\nstatic M deeper (I)I\ngive\ndoes static deeper (I)I\nload 0\nstatic M deeper (I)I\ngive\n"
	m := begin(t, family, text)
	for i, name := range strings.Fields("ok thrown trap fuel deep") {
		n := int64(i) + 50
		r := m.Run(100, "M", name, sig("(I)I"), num(n))
		if name != "deep" && r.Err.Error() != name || name == "deep" && r.Thrown != "DepthError" {
			t.Errorf("%s: %s", name, resText(r))
		}
		ref := int64(7 + i)
		if v, e := m.Static("A", "t"); v != num(n) || e != api.OK {
			t.Errorf("%s: %v, %v", name, v, e)
		}
		if v, e := m.Static("A", "s"); v != obj(ref) || e != api.OK {
			t.Errorf("%s: %v, %v", name, v, e)
		}
		if x, l, e := m.Object(ref); x != typ("LA;") || fmt.Sprint(l) != fmt.Sprint(vals(fmt.Sprint(n, " @0 @0 @0"))) || e != api.OK {
			t.Errorf("%s: %v, %v, %v", name, x, l, e)
		}
		if got := m.Stat(); got != (api.Stat{Objects: 7 + i, Bytes: 96 + 48*(i+1)}) {
			t.Errorf("%s: %v", name, got)
		}
	}
	runs(t, m, "A made ()LA;", "", "ok @12 :7")
}

// P1403: static fields: those of the class itself alone.
func TestStatic(t *testing.T) {
	m := begin(t, family, "class M Object\ndoes static f (I)V\nload 0\nputs B s I\nload 0\nneg\nputs A t I\nreturn\n")
	runs(t, m, "M f (I)V", "5", "ok 0 :6")
	for _, x := range []struct {
		class, name string
		want        api.Value
	}{{"B", "s", num(5)}, {"A", "t", num(-5)}, {"A", "s", obj(0)}} {
		if v, e := m.Static(x.class, x.name); v != x.want || e != api.OK {
			t.Errorf("%s %s: %v, %v", x.class, x.name, v, e)
		}
	}
	for _, s := range []string{"A x", "A next", "B t", "C s", "C t", "B x", "A none", "A ", " s", " ", "None s", "I s", "Object s", "DivError t", "a s", "A S", "AB s", "A s ", "E s", "A made", "M f"} {
		class, name, _ := strings.Cut(s, " ")
		if v, e := m.Static(class, name); v != (api.Value{}) || e != api.ErrMember {
			t.Errorf("%s: %v, %v", s, v, e)
		}
	}
	if _, e := m.Static(strings.Repeat("A", 1000), "\xff"); e != api.ErrMember {
		t.Error(e)
	}
}

// P1403: objects, arrays; no objects.
func TestObject(t *testing.T) {
	m := begin(t, family, "class M Object\ndoes static b ()V\n"+made("B")+"pop\nreturn\n"+
		"does static rows (I)V\nload 0\narray I\nload 0\narray [[LA;\npop\npop\nreturn\ndoes static put ([I)V\nload 0\nnumber 1\nnumber 9\nnumput\nreturn\n")
	runs(t, m, "M b ()V", "", "ok 0 :11")
	runs(t, m, "M rows (I)V", "2", "ok 0 :7")
	runs(t, m, "M rows (I)V", "0", "ok 0 :7")
	runs(t, m, "M put ([I)V", "@8", "ok 0 :5")
	for ref, want := range map[int64]string{1: "LNilError;", 4: "LDivError;", 6: "LHeapError;", 7: "LB; 0 @0 @0 @0 0 @0", 8: "[I 0 9", 9: "[[[LA; @0 @0", 10: "[I", 11: "[[[LA;"} {
		text, l, _ := strings.Cut(want, " ")
		if x, got, e := m.Object(ref); x != typ(text) || fmt.Sprint(got) != fmt.Sprint(vals(l)) || e != api.OK {
			t.Errorf("%d: %v, %v, %v", ref, x, got, e)
		}
	}
	for _, ref := range []int64{0, -1, 12, 13, -7, 1 << 32, 1<<32 + 1, -1 << 32, math.MaxInt64, math.MinInt64} {
		if x, l, e := m.Object(ref); x != (api.Type{}) || len(l) > 0 || e != api.ErrAddr {
			t.Errorf("%d: %v, %v, %v", ref, x, l, e)
		}
	}
	if got := m.Stat(); got != (api.Stat{Objects: 11, Bytes: 96 + 64 + 2*32 + 2*16}) {
		t.Errorf("%v", got)
	}
}
