package slow_test

import (
	"slices"
	"strings"
	"testing"

	"keystone/api"
)

// ends are programs that end in each way: their code, of `(I)I`, and how they end of 3.
var ends = map[string]string{
	"again: load 0\nprint\nload 0\nzero end\nload 0\nnumber 1\nsub\nstore 0\njump again\nend: load 0\ngive":                                                      "ok 0 :33 [3 2 1 0]",
	"load 0\nprint\nload 0\nnumber 0\ndiv\ngive":                                                                                                                 "thrown DivError :5 [3]",
	"load 0\nprint\nload 0\nputs A t I\n" + made("A") + "puts A s LA;\nadd\ngive":                                                                                "trap :11 [3]",
	"from: load 0\nprint\nnil\nthrow\nto: nop\nat: pop\n" + made("B") + "dup\nload 0\nput A x I\nload 0\nprint\ncall A who ()I\ngive\ncatch from to at NilError": "ok 20 :23 [3 3]",
	"static A made ()LA;\nputs A s LA;\ngets A s LA;\nthrow":                                                                                                     "trap :10",
	"load 0\nprint\nload 0\nstatic M f (I)I\ngive":                                                                                                               "thrown DepthError :64 [3 3 3 3 3 3 3 3 3 3 3 3 3 3 3 3]",
}

// P1404, P1402: with more fuel a run ends just so; with less it has done just the first steps.
func TestFuel(t *testing.T) {
	for code, want := range ends {
		w := world(t, "class M Object\ndoes static f (I)I\n"+code, family)
		full := of(t, w, 16).Run(1<<24, "M", "f", sig("(I)I"), num(3))
		if resText(full) != want {
			t.Errorf("%s\n%s, wanted %s", code, resText(full), want)
			continue
		}
		had := ""
		for fuel := range full.Steps + 5 {
			m := of(t, w, 16)
			got := m.Run(fuel, "M", "f", sig("(I)I"), num(3))
			ended := fuel >= full.Steps && full.Err != api.ErrTrap || fuel > full.Steps
			if ended && resText(got) != want {
				t.Errorf("%s\nfuel %d: %s, wanted %s", code, fuel, resText(got), want)
			}
			if ended {
				continue
			}
			if got.Err != api.ErrFuel || got.Steps != fuel || got.Value != (api.Value{}) || got.Thrown != "" || len(got.Out) > len(full.Out) || !slices.Equal(got.Out, full.Out[:len(got.Out)]) {
				t.Errorf("%s\nfuel %d: %s", code, fuel, resText(got))
			}
			// What is there grows step by step.
			now := stateOf(m)
			if strings.Count(now, "\n") < strings.Count(had, "\n") {
				t.Errorf("%s\nfuel %d: %s behind\n%s", code, fuel, now, had)
			}
			had = now
		}
	}
}

// P1402: each step does just what is its: what is kept behind each fuel.
func TestFirstSteps(t *testing.T) {
	w := world(t, family, "class M Object\ndoes static f ()V\nnumber 4\nputs A t I\nnew A\ndup\ninit A <init> ()V\ndup\nnumber 5\nput A x I\nputs A s LA;\nnumber 1\narray I\npop\nnumber 9\nprint\nreturn\n")
	for fuel, want := range []string{"0 @0 6 -", "0 @0 6 -", "4 @0 6 -", "4 @0 7 0", "4 @0 7 0", "4 @0 7 0", "4 @0 7 0", "4 @0 7 0", "4 @0 7 0", "4 @0 7 0", "4 @0 7 0", "4 @0 7 5", "4 @7 7 5", "4 @7 7 5", "4 @7 8 5", "4 @7 8 5"} {
		m := of(t, w, 9)
		r := m.Run(fuel, "M", "f", sig("()V"))
		n, _ := m.Static("A", "t")
		s, _ := m.Static("A", "s")
		x := "-"
		if _, l, e := m.Object(7); e == api.OK {
			x = valText(l[0])
		}
		got := valText(n) + " " + valText(s) + " " + valText(num(int64(m.Stat().Objects))) + " " + x
		if got != want || r.Err != api.ErrFuel || r.Steps != fuel || len(r.Out) > 0 {
			t.Errorf("%d: %s, wanted %s; %s", fuel, got, want, resText(r))
		}
	}
}

// P1402: fuel 0, and as much as there may be.
func TestFuelAtItsEnds(t *testing.T) {
	m := begin(t, "class M Object\ndoes static f ()V\nreturn\ndoes static bad ()V\nadd\ndoes static spin ()V 0 0\nagain: jump again\ndoes static end ()V 0 0\nnop")
	for _, s := range []string{"f", "bad", "spin", "end"} {
		if got := resText(m.Run(0, "M", s, sig("()V"))); got != "fuel :0" {
			t.Errorf("%s: %s", s, got)
		}
	}
	for s, want := range map[string]string{"f": "ok 0 :1", "bad": "trap :0", "spin": "fuel :1", "end": "fuel :1"} {
		if got := resText(m.Run(1, "M", s, sig("()V"))); got != want {
			t.Errorf("%s: %s", s, got)
		}
	}
	if got := resText(m.Run(1<<24, "M", "spin", sig("()V"))); got != "fuel :16777216" {
		t.Error(got)
	}
	if got := resText(m.Run(1<<24, "M", "end", sig("()V"))); got != "trap :1" {
		t.Error(got)
	}
}

// P1402: of what is printed the first 1024 numbers are kept; each step is counted all the same.
func TestOut(t *testing.T) {
	m := begin(t, "class M Object\ndoes static f (I)V\nagain: load 0\nzero end\nload 0\nprint\nload 0\nnumber 1\nsub\nstore 0\njump again\nend: return\n")
	for _, n := range []int{0, 1, 2, 1023, 1024, 1025, 3000} {
		r := m.Run(1<<24, "M", "f", sig("(I)V"), num(int64(n)))
		var want []int64
		for i := n; i > 0 && len(want) < 1024; i-- {
			want = append(want, int64(i))
		}
		if r.Err != api.OK || r.Steps != 9*n+3 || !slices.Equal(r.Out, want) {
			t.Errorf("%d: %v, %d steps, %d numbers", n, r.Err, r.Steps, len(r.Out))
		}
	}
	// It begins anew with each run.
	if r := m.Run(99, "M", "f", sig("(I)V"), num(2)); resText(r) != "ok 0 :21 [2 1]" {
		t.Error(resText(r))
	}
}

// The chapter's examples.
func TestExamples(t *testing.T) {
	m := alone(t, "()I", "number 2\nnumber 3\nmul\ngive")
	runs(t, m, "M f ()I", "", "ok 6 :4")
	if r := run(m, 3, "M f ()I", ""); resText(r) != "fuel :3" {
		t.Error(resText(r))
	}
	tells(t, "()I", "add\ngive", "", "trap :0")
	tells(t, "()I", "number 1\nnumber 0\ndiv\ngive", "", "thrown DivError :3")
}
