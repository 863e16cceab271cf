package maps_test

import (
	"math/rand"
	"slices"
	"strconv"
	"strings"
	"testing"

	"keystone/api"
	"keystone/frames"
	"keystone/hier"
	"keystone/instr"
	"keystone/step"
)

// headings are those of the methods that are made at random, one of each in a world.
var headings = []string{"static f (ILA;)V", "static f (LB;LD;I)LA;", "f (I)I", "<init> (I)V", "static f ([ILI;[LA;)LX;", "<init> (LM;)V"}

// lines are instructions that may stand in such methods; jumps' places come later.
var lines = []string{
	"nop", "number 5", "number 5", "nil", "nil", "load 0", "load 0", "load 1", "load 1", "load 2", "load 2", "store 0", "store 0", "store 1", "store 1", "store 2", "store 2",
	"pop", "pop", "dup", "dup", "swap", "add", "neg", "print", "jump", "jump", "zero", "zero", "zero", "minus", "less", "isnil", "isnil", "isnil", "same",
	"new A", "new A", "new B", "new X", "new E", "get A next LA;", "get A x I", "put A next LA;", "gets A s LA;", "puts A s LA;",
	"array I", "array LA;", "numget", "refget", "refput", "length", "cast LB;", "cast LD;", "cast [LA;", "is LB;",
	"init A <init> ()V", "init A <init> ()V", "init B <init> ()V", "init X <init> ()V", "face I i ()V", "call F i ()V",
	"return", "return", "give", "give", "throw", "throw",
}

// maker makes methods at random: most of what they do can be done in a frame that may come there.
type maker struct {
	r    *rand.Rand
	k    *book
	base *hier.World // M's methods there have the headings
	all  []api.Instr
}

func newMaker(t *testing.T, seed int64) *maker {
	x := &maker{r: rand.New(rand.NewSource(seed)), k: begin().family()}
	for _, s := range lines {
		word, rest, _ := strings.Cut(s, " ")
		if op, _ := instr.Op(word); jumps(op) {
			x.all = append(x.all, api.Instr{Op: op})
			continue
		}
		x.all = append(x.all, x.k.instr(word, rest, nil))
	}
	for i := range x.all {
		x.all[i].Size = instr.Size(x.all[i].Op)
	}
	x.base = x.world(t, x.empty)
	return x
}

// empty has a heading, and code that does nothing.
func (x *maker) empty(n int) api.Method {
	m := x.k.method(headings[n], 3, 3, "return")
	if m.Name != "<init>" {
		m.Name += strconv.Itoa(n)
	}
	return m
}

// world has as many methods of M as there are headings.
func (x *maker) world(t *testing.T, method func(n int) api.Method) *hier.World {
	t.Helper()
	m := x.k.module()
	c := api.Class{Name: "M", Super: "A"}
	for n := range headings {
		c.Methods = append(c.Methods, method(n))
	}
	m.Classes = append(slices.Clone(m.Classes), c)
	return linked(t, m)
}

// made is a method with so many instructions: those that are done in a row, then jumps and handlers led where they may lead.
func (x *maker) made(n, size int) api.Method {
	m := x.empty(n)
	f, _ := frames.Entry(x.base, "M", n)
	ahead := []api.Frame{f}
	var l []api.Instr
	var begin []int // where handlers may begin
	at := 0
	for len(l) < size {
		i, out := x.some(n, at, f)
		l = append(l, i)
		at += i.Size
		next := instr.Next(i)
		f = out
		if len(next) == 0 || i.Op == api.IJump {
			f = ahead[x.r.Intn(len(ahead))]
			if x.r.Intn(2) == 0 {
				f = frames.Catch(ahead[0], "X")
				begin = append(begin, len(l))
			}
		}
		ahead = append(ahead, f)
	}
	if x.r.Intn(4) > 0 {
		l[size-1] = api.Instr{At: l[size-1].At, Op: api.IJump, Size: 3}
	}
	x.lead(l, ahead)
	m.Code, _ = instr.Encode(l...)
	m.Handlers = x.handlers(l, begin)
	return m
}

// some is an instruction, most times one that can be done, and the frame behind it; now and then one that wants much, where that is there.
func (x *maker) some(n, at int, f api.Frame) (api.Instr, api.Frame) {
	if i := x.all[slices.Index(lines, []string{"refput", "put A next LA;", "less", "same"}[x.r.Intn(4)])]; x.r.Intn(2) == 0 {
		i.At = at
		if out, e := step.Step(x.base, "M", n, i, f); e == api.OK {
			return i, out
		}
	}
	for {
		i := x.all[x.r.Intn(len(x.all))]
		i.At = at
		out, e := step.Step(x.base, "M", n, i, f)
		if e == api.OK {
			return i, out
		}
		if x.r.Intn(200) == 0 {
			return i, f
		}
	}
}

// lead fills in where jumps go to, most times where the depth is the same.
func (x *maker) lead(l []api.Instr, ahead []api.Frame) {
	for n, i := range l {
		if !jumps(i.Op) {
			continue
		}
		depth := len(ahead[n+1].Stack)
		if i.Op == api.IJump {
			depth = len(ahead[n].Stack)
		}
		for {
			to := x.r.Intn(len(l))
			if len(ahead[to].Stack) == depth || x.r.Intn(50) == 0 {
				l[n].N = l[to].At
				break
			}
		}
	}
}

func (x *maker) handlers(l []api.Instr, begin []int) []api.Handler {
	var h []api.Handler
	classes := []string{"X", "Y", "Throwable", "DivError"}
	if x.r.Intn(40) == 0 {
		classes = []string{"Object", "X", "A"}
	}
	if x.r.Intn(8) == 0 {
		begin = append(begin, x.r.Intn(len(l)))
	}
	for _, b := range begin {
		if b >= len(l) || x.r.Intn(4) == 0 {
			continue
		}
		from := x.r.Intn(len(l))
		to := from + 1 + x.r.Intn(len(l)-from)
		end := l[len(l)-1].At + l[len(l)-1].Size
		if to < len(l) {
			end = l[to].At
		}
		h = append(h, api.Handler{From: l[from].At, To: end, At: l[b].At, Class: classes[x.r.Intn(len(classes))]})
	}
	return h
}
