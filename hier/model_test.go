package hier_test

import (
	"errors"
	"fmt"
	"math/rand"
	"regexp"
	"slices"
	"strings"
	"testing"

	"keystone/api"
	"keystone/desc"
	"keystone/hier"
	"keystone/module"
)

// page is a class of a book, and its module's pool.
type page struct {
	api.Class
	pool []api.Entry
}

// book is a world by the words of the chapter, with nothing made ready: each question is a walk through all classes.
type book struct {
	l      []page
	linked bool
}

func newBook() *book {
	b := &book{}
	for i, name := range strings.Fields("Object Throwable NilError BoundsError CastError DivError DepthError HeapError") {
		super := "Throwable"
		if i < 2 {
			super = []string{"", "Object"}[i]
		}
		b.l = append(b.l, page{Class: api.Class{Name: name, Super: super, Methods: []api.Method{{Name: "<init>", Sig: api.Sig{Void: true}}}}})
	}
	return b
}

// bookOf is a book with these modules, which it may have.
func bookOf(l ...api.Module) *book {
	b := newBook()
	for _, m := range l {
		if e := b.Add(m); e != api.OK {
			panic(e)
		}
	}
	return b
}

func (b *book) find(name string) (page, bool) {
	for _, p := range b.l {
		if p.Name == name {
			return p, true
		}
	}
	return page{}, false
}

func (b *book) there(name string) bool {
	_, ok := b.find(name)
	return ok
}

func (b *book) face(name string) bool {
	p, _ := b.find(name)
	return p.Flags == 1
}

func (b *book) Add(m api.Module) api.Errno {
	var bad *module.Bad
	if b.linked {
		return api.ErrLinked
	}
	if errors.As(module.Check(m), &bad) {
		return bad.Err
	}
	for _, c := range m.Classes {
		if b.there(c.Name) {
			return api.ErrTwice
		}
	}
	if len(b.l)+len(m.Classes) > 8+256 {
		return api.ErrMany
	}
	for _, c := range module.Twin(m).Classes {
		b.l = append(b.l, page{c, m.Pool})
	}
	return api.OK
}

func (b *book) Link() (string, api.Errno) {
	if b.linked {
		return "", api.ErrLinked
	}
	for i, e := range []api.Errno{api.ErrSuper, api.ErrFace, api.ErrCycle, api.ErrLong, api.ErrNone, api.ErrOverride, api.ErrMissing} {
		for _, p := range b.l[8:] {
			if b.breaks(i+1, p) {
				return p.Name, e
			}
		}
	}
	b.linked = true
	return "", api.OK
}

func (b *book) breaks(rule int, p page) bool {
	switch rule {
	case 1:
		return !b.there(p.Super) || slices.ContainsFunc(p.Faces, func(s string) bool { return !b.there(s) })
	case 2:
		return b.face(p.Super) || slices.ContainsFunc(p.Faces, func(s string) bool { return !b.face(s) })
	case 3:
		return b.circle(p.Name)
	case 4:
		return len(b.chain(p.Name)) > 32
	case 5:
		return slices.ContainsFunc(b.mentions(p), func(s string) bool { return !b.there(s) })
	case 6:
		return b.override(p)
	}
	return p.Flags == 0 && len(b.owed(p.Name)) > 0
}

// circle asks by sets that grow till nothing is new.
func (b *book) circle(name string) bool {
	var reached []string
	from := []string{name}
	for len(from) > 0 {
		var next []string
		for _, s := range from {
			p, _ := b.find(s)
			for _, up := range append([]string{p.Super}, p.Faces...) {
				if b.there(up) && !slices.Contains(reached, up) {
					reached = append(reached, up)
					next = append(next, up)
				}
			}
		}
		from = next
	}
	return slices.Contains(reached, name)
}

// mentioned finds the classes in the text of a type or signature.
var mentioned = regexp.MustCompile(`L(\w+);`)

func (b *book) mentions(p page) []string {
	var names, texts []string
	for _, f := range p.Fields {
		s, _ := desc.TypeText(f.Type)
		texts = append(texts, s)
	}
	for _, m := range p.Methods {
		texts = append(texts, text(m.Sig))
		for _, h := range m.Handlers {
			names = append(names, h.Class)
		}
	}
	for _, e := range p.pool {
		switch e.Kind {
		case 3:
			names = append(names, p.pool[e.A].Text)
		case 4:
			texts = append(texts, p.pool[e.A].Text)
		case 5, 6:
			texts = append(texts, p.pool[e.C].Text)
		}
	}
	for _, s := range texts {
		for _, x := range mentioned.FindAllStringSubmatch(s, -1) {
			names = append(names, x[1])
		}
	}
	return names
}

// own is the place of a class's own method, -1 where it has none.
func own(c api.Class, name string, g api.Sig) int {
	return slices.IndexFunc(c.Methods, func(m api.Method) bool { return m.Name == name && desc.Same(m.Sig, g) })
}

// near is the nearest method in a chain: its class, its place, itself.
func (b *book) near(from, name string, g api.Sig) (string, int, api.Method, bool) {
	for _, s := range b.chain(from) {
		p, _ := b.find(s)
		if i := own(p.Class, name, g); i >= 0 {
			return s, i, p.Methods[i], true
		}
	}
	return "", 0, api.Method{}, false
}

func (b *book) override(p page) bool {
	for _, m := range p.Methods {
		_, _, up, ok := b.near(p.Super, m.Name, m.Sig)
		if ok && p.Flags != 1 && m.Name != "<init>" && (m.Flags == 4 || up.Flags == 4) {
			return true
		}
	}
	return false
}

// owed are the methods that a class must do, and does not.
func (b *book) owed(name string) []api.Method {
	var l []api.Method
	for _, s := range append(b.chain(name), b.faces(name)...) {
		p, _ := b.find(s)
		for _, m := range p.Methods {
			if _, _, ok := b.pick(name, m.Name, m.Sig); m.Flags == 2 && !ok {
				l = append(l, m)
			}
		}
	}
	return l
}

func (b *book) chain(name string) []string {
	p, ok := b.find(name)
	if !ok {
		return nil
	}
	return append([]string{name}, b.chain(p.Super)...)
}

// faces walks every way, then strikes out what comes again.
func (b *book) faces(name string) []string {
	var l []string
	for _, s := range b.walk(name) {
		if !slices.Contains(l, s) {
			l = append(l, s)
		}
	}
	return l
}

func (b *book) walk(name string) []string {
	var l []string
	for _, s := range b.chain(name) {
		p, _ := b.find(s)
		for _, f := range p.Faces {
			l = append(append(l, f), b.walk(f)...)
		}
	}
	return l
}

func (b *book) pick(class, name string, g api.Sig) (string, int, bool) {
	s, i, m, ok := b.near(class, name, g)
	if !ok || b.face(class) || name == "<init>" || m.Flags == 2 || m.Flags == 4 {
		return "", 0, false
	}
	return s, i, true
}

func (b *book) Linked() bool { return b.linked }

func (b *book) Names() []string {
	var l []string
	for _, p := range b.l {
		l = append(l, p.Name)
	}
	return l
}

func (b *book) Class(name string) (api.Class, []api.Entry, bool) {
	p, ok := b.find(name)
	return p.Class, p.pool, ok
}

func (b *book) Above(up, down string) bool {
	return b.linked && slices.Contains(b.chain(down), up)
}

func (b *book) Sub(x, y api.Type) bool {
	for _, t := range []api.Type{x, y} {
		if !b.linked || t.Dims < 0 || t.Dims > 8 || t.Name != "" && !b.there(t.Name) {
			return false
		}
	}
	number := api.Type{}
	up := append(b.chain(x.Name), b.faces(x.Name)...)
	return x == y || x != number && y == api.Type{Name: "Object"} || x.Dims == 0 && y.Dims == 0 && slices.Contains(up, y.Name)
}

func (b *book) Common(l ...string) string {
	if !b.linked || len(l) == 0 {
		return ""
	}
	for _, s := range b.chain(l[0]) {
		all := true
		for _, x := range l {
			all = all && b.Above(s, x)
		}
		if all {
			return s
		}
	}
	return ""
}

func (b *book) Chain(name string) []string {
	if !b.linked {
		return nil
	}
	return b.chain(name)
}

func (b *book) Faces(name string) []string {
	if !b.linked {
		return nil
	}
	return b.faces(name)
}

func (b *book) Layout(class string) []hier.Slot {
	p, ok := b.find(class)
	if !ok || !b.linked {
		return nil
	}
	l := b.Layout(p.Super)
	for _, f := range p.Fields {
		if f.Flags == 0 {
			l = append(l, hier.Slot{Class: class, Field: f})
		}
	}
	return l
}

func (b *book) Field(class, name string, t api.Type, static bool) (hier.Slot, int, api.Errno) {
	if !b.linked {
		return hier.Slot{}, 0, api.ErrLoose
	}
	for _, s := range b.chain(class) {
		p, _ := b.find(s)
		for i, f := range p.Fields {
			if f.Name != name {
				continue
			}
			if f.Type != t || (f.Flags == 4) != static {
				return hier.Slot{}, 0, api.ErrMember
			}
			slot := hier.Slot{Class: s, Field: f}
			if !static {
				i = slices.Index(b.Layout(s), slot)
			}
			return slot, i, api.OK
		}
	}
	return hier.Slot{}, 0, api.ErrMember
}

func (b *book) Method(op int, class, name string, g api.Sig) (string, int, api.Errno) {
	if !b.linked {
		return "", 0, api.ErrLoose
	}
	if op < 38 || op > 41 {
		return "", 0, api.ErrKind
	}
	p, ok := b.find(class)
	if !ok || (op == 39) != (p.Flags == 1) || (op == 41) != (name == "<init>") {
		return "", 0, api.ErrMember
	}
	switch op {
	case 39:
		for _, s := range append([]string{class}, b.faces(class)...) {
			q, _ := b.find(s)
			if i := own(q.Class, name, g); i >= 0 {
				return s, i, api.OK
			}
		}
		return "", 0, api.ErrMember
	case 41:
		if i := own(p.Class, name, g); i >= 0 {
			return class, i, api.OK
		}
		return "", 0, api.ErrMember
	}
	s, i, m, ok := b.near(class, name, g)
	if !ok || (m.Flags == 4) != (op == 40) {
		return "", 0, api.ErrMember
	}
	return s, i, api.OK
}

func (b *book) Pick(class, name string, g api.Sig) (string, int, bool) {
	if !b.linked {
		return "", 0, false
	}
	return b.pick(class, name, g)
}

// asked is what worlds and books are asked for.
type asked interface {
	Linked() bool
	Names() []string
	Class(name string) (api.Class, []api.Entry, bool)
	Above(up, down string) bool
	Sub(a, b api.Type) bool
	Common(l ...string) string
	Chain(name string) []string
	Faces(name string) []string
	Layout(class string) []hier.Slot
	Field(class, name string, t api.Type, static bool) (hier.Slot, int, api.Errno)
	Method(op int, class, name string, g api.Sig) (string, int, api.Errno)
	Pick(class, name string, g api.Sig) (string, int, bool)
}

// The names, types and signatures by which worlds are asked for everything.
func manyNames() []string {
	return slices.Concat(someClasses, someFaces, []string{"Object", "Throwable", "HeapError", "None", "", "<init>"})
}

func manyTypes() []api.Type {
	l := []api.Type{{}, {Dims: 1}, {Dims: 8}, {Dims: 9}, {Dims: -1}, {Dims: 1, Name: "1"}}
	for _, s := range manyNames() {
		l = append(l, api.Type{Name: s})
		if len(s) == 1 || s == "Object" {
			l = append(l, api.Type{Dims: 1, Name: s}, api.Type{Dims: 9, Name: s})
		}
	}
	return l
}

func manySigs() []api.Sig {
	l := []api.Sig{{Void: true, Result: api.Type{Dims: 1}}, {Params: make([]api.Type, 17), Void: true}, {Params: []api.Type{{Dims: 9}}, Void: true}}
	for _, s := range someSigs {
		l = append(l, sig(s))
	}
	return l
}

// told is all that a world tells, a line for each call, but for Names, which the order of modules changes.
func told(w asked) []string {
	l := []string{fmt.Sprint("Linked ", w.Linked())}
	say := func(x ...any) { l = append(l, fmt.Sprintln(x...)) }
	names := manyNames()
	for _, c := range names {
		x, p, ok := w.Class(c)
		say("Class", c, image(x, false), image(p, false), ok)
		say("Chain", c, w.Chain(c), "Faces", w.Faces(c), "Layout", w.Layout(c))
		for _, d := range names {
			say("Above", c, d, w.Above(c, d), "Common", w.Common(c, d), w.Common(d, c, d))
		}
		say("Common", c, w.Common(c), w.Common(c, "A", "B", "C"), w.Common("D", "Object", c))
		for _, f := range []string{"x", "y", "z", "none", ""} {
			for _, s := range append([]string{"LNone;"}, someTypes...) {
				slot, i, e := w.Field(c, f, typ(s), false)
				static, j, no := w.Field(c, f, typ(s), true)
				say("Field", c, f, s, slot, i, e, static, j, no)
			}
		}
		l = append(l, toldMethods(w, c)...)
	}
	for _, x := range manyTypes() {
		for _, y := range manyTypes() {
			say("Sub", x, y, w.Sub(x, y))
		}
	}
	return append(l, fmt.Sprint("Common of none ", w.Common()))
}

func toldMethods(w asked, c string) []string {
	var l []string
	for _, name := range []string{"f", "g", "<init>", "none"} {
		for _, g := range manySigs() {
			s, i, ok := w.Pick(c, name, g)
			line := fmt.Sprint("Pick ", c, name, g, s, i, ok)
			for _, op := range []int{api.ICast, api.IIs, api.ICall, api.IFace, api.IStatic, api.IInit, api.IReturn, -1} {
				s, i, e := w.Method(op, c, name, g)
				line += fmt.Sprint(" Method ", op, s, i, e)
			}
			l = append(l, line)
		}
	}
	return l
}

// differs is where two rows of lines first do, or empty.
func differs(a, b []string) string {
	for i := range min(len(a), len(b)) {
		if a[i] != b[i] {
			return a[i] + " and " + b[i]
		}
	}
	if len(a) != len(b) {
		return "one has more lines"
	}
	return ""
}

// alike holds a world against a book.
func alike(t *testing.T, w *hier.World, b *book) {
	t.Helper()
	if !slices.Equal(w.Names(), b.Names()) {
		t.Fatalf("%v, wanted %v", w.Names(), b.Names())
	}
	if d := differs(told(w), told(b)); d != "" {
		t.Fatal(d)
	}
}

// P601 to P608: random worlds, held against the book: loose, refused or linked; each error of Link must have been met.
func TestAgainstBook(t *testing.T) {
	r := rand.New(rand.NewSource(600))
	met := map[api.Errno]int{}
	for i := range 3000 {
		w, b := hier.New(), newBook()
		for _, m := range someModules(r) {
			if e, want := w.Add(m), b.Add(m); e != want {
				t.Fatalf("Add: %v, wanted %v", e, want)
			}
		}
		if i%50 == 0 {
			alike(t, w, b)
		}
		s, e := w.Link()
		want, no := b.Link()
		if s != want || e != no {
			t.Fatalf("%d: Link: %s, %v, wanted %s, %v", i, s, e, want, no)
		}
		if met[e]++; met[e] <= 120 && e == api.OK || met[e] <= 5 {
			alike(t, w, b)
		}
	}
	for _, e := range []api.Errno{api.OK, api.ErrSuper, api.ErrFace, api.ErrCycle, api.ErrNone, api.ErrOverride, api.ErrMissing} {
		if met[e] < 40 {
			t.Errorf("%v is met %d times", e, met[e])
		}
	}
}
