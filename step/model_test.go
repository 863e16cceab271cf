package step_test

import (
	"math/rand"
	"slices"
	"strings"
	"testing"

	"keystone/api"
	"keystone/hier"
	"keystone/instr"
	"keystone/lattice"
	"keystone/pool"
	"keystone/step"
)

// book is the chapter's table, a second time: operations; what they take, the last one first; what they put. A digit is what was taken so.
const book = `
nop jump                                | |
number                                  | | num
nil                                     | | nil
load                                    | | local
store pop                               | any |
dup                                     | any | 0 0
swap                                    | any any | 0 1
add sub mul div rem and or xor shl shr  | number number | num
neg                                     | number | num
zero minus print                        | number |
less                                    | number number |
isnil                                   | object |
same                                    | object object |
new                                     | | fresh
get                                     | owner | type
put                                     | type owner |
gets                                    | | type
puts                                    | type |
array                                   | number | array
numget                                  | number numbers | num
numput                                  | number number numbers |
refget                                  | number objects | element
refput                                  | any any any |
length                                  | array | num
cast                                    | object | type
is                                      | object | num
call face                               | params owner | result
static                                  | params | result
init                                    | params raw |
return                                  | |
give                                    | own |
throw                                   | throwable |
`

// bookRow is the table's row of an operation's word.
func bookRow(word string) (takes, puts []string) {
	for line := range strings.SplitSeq(book, "\n") {
		if cells := strings.Split(line, "|"); slices.Contains(strings.Fields(cells[0]), word) {
			return strings.Fields(cells[1]), strings.Fields(cells[2])
		}
	}
	panic(word)
}

// page is all that the chapter's words speak of in one step.
type page struct {
	w      *hier.World
	word   string
	i      api.Instr
	m      api.Method
	pool   []api.Entry
	owner  string
	t      api.Type
	g      api.Sig
	before api.Frame
	taken  []api.VType
	behind api.Frame
}

// bookStep is P901, word by word.
func bookStep(w *hier.World, class string, method int, i api.Instr, f api.Frame) (api.Frame, api.Errno) {
	p := page{w: w, i: i, before: f}
	c, l, there := w.Class(class)
	p.pool = l
	if !there || method < 0 || method >= len(c.Methods) || c.Methods[method].Code == nil {
		return api.Frame{}, api.ErrMember
	}
	p.m = c.Methods[method]
	if i.Op < 0 || i.Op > 45 {
		return api.Frame{}, api.ErrOp
	}
	if f.Self.Kind == 0 {
		return api.Frame{}, api.OK
	}
	p.word = instr.Name(i.Op)
	for _, ask := range []func() api.Errno{p.local, p.entry, p.member, p.kind, p.takes, p.late} {
		if e := ask(); e != api.OK {
			return api.Frame{}, e
		}
	}
	p.beside()
	if len(p.behind.Stack) > p.m.Stack {
		return api.Frame{}, api.ErrOver
	}
	return p.behind, api.OK
}

func (p *page) is(words string) bool { return slices.Contains(strings.Fields(words), p.word) }

func (p *page) local() api.Errno {
	if p.is("load store") && (p.i.N < 0 || p.i.N >= len(p.before.Locals)) {
		return api.ErrLocal
	}
	return api.OK
}

// entry is P403's, of entries.
func (p *page) entry() (e api.Errno) {
	name := ""
	switch {
	case p.is("number"):
		_, e = pool.Number(p.pool, p.i.N)
	case p.is("new"):
		p.owner, e = pool.Class(p.pool, p.i.N)
	case p.is("get put gets puts"):
		p.owner, _, p.t, e = pool.Field(p.pool, p.i.N)
	case p.is("array cast is"):
		p.t, e = pool.Type(p.pool, p.i.N)
	case p.is("call face static init"):
		p.owner, name, p.g, e = pool.Method(p.pool, p.i.N)
	}
	switch {
	case e != api.OK:
		return e
	case p.is("cast is") && p.t == api.Type{}:
		return api.ErrType
	case p.is("array") && p.t.Dims == 8:
		return api.ErrType
	case p.is("init") && name != "<init>":
		return api.ErrName
	case p.is("init") && !p.g.Void:
		return api.ErrType
	case p.is("call face static") && name == "<init>":
		return api.ErrName
	}
	return api.OK
}

// member is what hier says of the entry.
func (p *page) member() (e api.Errno) {
	switch {
	case p.is("new"):
		c, _, there := p.w.Class(p.owner)
		if !there {
			return api.ErrMember
		}
		if c.Flags != 0 {
			return api.ErrFace
		}
	case p.is("get put gets puts"):
		_, name, _, _ := pool.Field(p.pool, p.i.N)
		_, _, e = p.w.Field(p.owner, name, p.t, p.is("gets puts"))
	case p.is("call face static init"):
		_, name, _, _ := pool.Method(p.pool, p.i.N)
		_, _, e = p.w.Method(p.i.Op, p.owner, name, p.g)
	}
	return e
}

func (p *page) kind() api.Errno {
	if p.is("return") && !p.m.Sig.Void || p.is("give") && p.m.Sig.Void {
		return api.ErrWrong
	}
	return api.OK
}

// takes asks each value that the table's row names.
func (p *page) takes() api.Errno {
	words, _ := bookRow(p.word)
	if at := slices.Index(words, "params"); at >= 0 {
		l := slices.Repeat([]string{"param"}, len(p.g.Params))
		words = slices.Concat(words[:at], l, words[at+1:])
	}
	stack := p.before.Stack
	for n, word := range words {
		if n >= len(stack) {
			return api.ErrUnder
		}
		v := stack[len(stack)-1-n]
		if e := p.wants(word, n, v); e != api.OK {
			return e
		}
		p.taken = append(p.taken, v)
	}
	p.behind = api.Frame{Self: p.before.Self, Locals: slices.Clone(p.before.Locals), Stack: slices.Clone(stack[:len(stack)-len(words)])}
	return api.OK
}

// wants is the error of a value, the n-th that is taken, by the chapter's words below the table.
func (p *page) wants(word string, n int, v api.VType) api.Errno {
	fits := func(t api.Type) api.Errno { return lattice.Fits(p.w, v, t) }
	switch word {
	case "any":
		return api.OK
	case "number":
		return fits(api.Type{})
	case "object":
		return fits(api.Type{Name: "Object"})
	case "owner":
		return fits(api.Type{Name: p.owner})
	case "type":
		return fits(p.t)
	case "param":
		return fits(p.g.Params[len(p.g.Params)-1-n])
	case "own":
		return fits(p.m.Sig.Result)
	case "throwable":
		return fits(api.Type{Name: "Throwable"})
	case "raw":
		return p.raw(v)
	case "array", "numbers", "objects":
		return bookArray(word, v)
	}
	panic(word)
}

func bookArray(word string, v api.VType) api.Errno {
	numbers := v.Type == api.Type{Dims: 1}
	switch {
	case v.Kind == api.VNil:
		return api.OK
	case v.Kind == api.VRef && v.Type.Dims > 0 && (word == "array" || (word == "numbers") == numbers):
		return api.OK
	case v.Kind == api.VFresh || v.Kind == api.VSelf:
		return api.ErrInit
	}
	return api.ErrWrong
}

func (p *page) raw(v api.VType) api.Errno {
	c, _, _ := p.w.Class(v.Type.Name)
	super := c.Super
	if v.Kind == api.VFresh && v.Type == (api.Type{Name: p.owner}) {
		return api.OK
	}
	if v.Kind == api.VSelf && v.Type.Dims == 0 && (v.Type.Name == p.owner || super == p.owner) {
		return api.OK
	}
	return api.ErrInit
}

// late are refput's errors, and ErrInit of return.
func (p *page) late() api.Errno {
	if p.is("return") && p.m.Name == "<init>" && p.before.Self.Kind != api.VRef {
		return api.ErrInit
	}
	if !p.is("refput") {
		return api.OK
	}
	t := api.Type{Name: p.taken[2].Type.Name, Dims: p.taken[2].Type.Dims - 1}
	if p.taken[2].Kind == api.VNil {
		t = api.Type{Name: "Object"}
	}
	if e := lattice.Fits(p.w, p.taken[1], api.Type{}); e != api.OK {
		return e
	}
	if e := bookArray("objects", p.taken[2]); e != api.OK {
		return e
	}
	return lattice.Fits(p.w, p.taken[0], t)
}

// everywhere writes one knowledge over another one.
func (p *page) everywhere(from, to api.VType) {
	all := []*api.VType{&p.behind.Self}
	for i := range p.behind.Locals {
		all = append(all, &p.behind.Locals[i])
	}
	for i := range p.behind.Stack {
		all = append(all, &p.behind.Stack[i])
	}
	for _, v := range all {
		if *v == from {
			*v = to
		}
	}
}

// beside does what stands beside in the table, and puts what is put.
func (p *page) beside() {
	made := api.VType{Kind: api.VFresh, Type: api.Type{Name: p.owner}, At: p.i.At}
	switch p.word {
	case "store":
		p.behind.Locals[p.i.N] = p.taken[0]
	case "new":
		p.everywhere(made, top)
	case "init":
		v := p.taken[len(p.taken)-1]
		p.everywhere(v, api.VType{Kind: api.VRef, Type: v.Type})
	}
	_, words := bookRow(p.word)
	for _, word := range words {
		if v, puts := p.puts(word, made); puts {
			p.behind.Stack = append(p.behind.Stack, v)
		}
	}
}

func (p *page) puts(word string, made api.VType) (api.VType, bool) {
	switch word {
	case "num":
		return num, true
	case "nil":
		return null, true
	case "local":
		return p.before.Locals[p.i.N], true
	case "0":
		return p.taken[0], true
	case "1":
		return p.taken[1], true
	case "fresh":
		return made, true
	case "type":
		return lattice.Of(p.t), true
	case "array":
		return api.VType{Kind: api.VRef, Type: api.Type{Dims: p.t.Dims + 1, Name: p.t.Name}}, true
	case "element":
		if p.taken[1].Kind == api.VNil {
			return null, true
		}
		t := p.taken[1].Type
		return lattice.Of(api.Type{Dims: t.Dims - 1, Name: t.Name}), true
	case "result":
		return lattice.Of(p.g.Result), !p.g.Void
	}
	panic(word)
}

// asTheBook holds a step against the book's, and tells its error.
func asTheBook(t *testing.T, w *hier.World, x site, i api.Instr, f api.Frame) api.Errno {
	t.Helper()
	got, e := step.Step(w, x.class, x.method, i, f)
	want, err := bookStep(w, x.class, x.method, i, f)
	if e != err || !alike(got, want) {
		t.Fatalf("%v, %s %v of %v: %v, %v, wanted %v, %v", x, instr.Name(i.Op), i, f, got, e, want, err)
	}
	return e
}

// poolOfSite is the pool by which the instructions of a method are read.
func poolOfSite(x site) []api.Entry {
	if x.class == "Q" {
		return poolQ
	}
	return poolA
}

// P901: each instruction of the family, in three methods, over Stacks of none, of one place of each sort that is known, and of two whose last one is of fewer sorts, held against the book; each operation that takes at most two must have been done.
func TestSmallStacksAgainstTheBook(t *testing.T) {
	w := world(t)
	met := map[int]int{}
	stacks := [][]api.VType{nil}
	for _, a := range known {
		stacks = append(stacks, []api.VType{a})
		for _, b := range row("num nil top [I [LA; LObject; LA; LC; LI; LX; A@7 A! B!") {
			stacks = append(stacks, []api.VType{a, b})
		}
	}
	all, own := allInstrs(poolA), row("B! LA; top")
	for n, x := range []site{home, {"A", 2}, {"B", 0}} {
		for _, i := range all {
			for _, l := range stacks {
				f := api.Frame{Self: own[n], Locals: row("A@7 B!"), Stack: l}
				if asTheBook(t, w, x, i, f) == api.OK {
					met[i.Op]++
				}
			}
		}
	}
	for op := range api.LastInst + 1 {
		// Three places are taken by these.
		if met[op] == 0 && op != api.INumPut && op != api.IRefPut {
			t.Errorf("%s is never done", instr.Name(op))
		}
	}
}

// P901: any instructions over any frames, right or not, held against the book; each operation must have been done, each error met.
func TestAnythingAgainstTheBook(t *testing.T) {
	w := world(t)
	r := rand.New(rand.NewSource(901))
	did, met := map[int]int{}, map[api.Errno]int{}
	all := append(sites(), site{"None", 0}, site{"A", -1}, site{"A", 8}, site{"I", 0}, site{"E", 0}, site{"Object", 0})
	instrs := map[bool][]api.Instr{false: allInstrs(poolA), true: allInstrs(poolQ)}
	for range 150000 {
		x := all[r.Intn(len(all))]
		f := someFrame(r, r.Intn(4), r.Intn(6))
		if r.Intn(4) == 0 {
			f = oddFrame(r)
		}
		i := someInstr(r, instrs[x.class == "Q"], poolOfSite(x))
		if r.Intn(3) == 0 && len(f.Stack) > 2 { // three places are seldom as they must be
			copy(f.Stack[len(f.Stack)-3:], row([]string{"[I num num", "[LA; num LB;", "nil num LX;", "LA; [I num", "LA; nil num"}[r.Intn(5)]))
		}
		e := asTheBook(t, w, x, i, f)
		met[e]++
		if e == api.OK && f.Self.Kind != 0 {
			did[i.Op]++
		}
	}
	for op := range api.LastInst + 1 {
		if did[op] < 3 {
			t.Errorf("%s is done %d times", instr.Name(op), did[op])
		}
	}
	for _, e := range []api.Errno{api.OK, api.ErrMember, api.ErrOp, api.ErrLocal, api.ErrEntry, api.ErrType, api.ErrName, api.ErrFace, api.ErrWrong, api.ErrUnder, api.ErrInit, api.ErrOver} {
		if met[e] < 50 {
			t.Errorf("%v is met %d times", e, met[e])
		}
	}
}
