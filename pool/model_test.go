package pool_test

import (
	"math/rand"
	"regexp"
	"strconv"
	"strings"

	"keystone/api"
)

// What the chapter says, written a second time, with patterns for the texts; the tests hold the package against it.
const (
	nameForm = `[A-Za-z_][A-Za-z0-9_]{0,31}`
	typeForm = `\[{0,8}(I|L` + nameForm + `;)`
)

var (
	isName   = regexp.MustCompile(`^` + nameForm + `$`)
	isMethod = regexp.MustCompile(`^(<init>|` + nameForm + `)$`)
	isType   = regexp.MustCompile(`^` + typeForm + `$`)
	isSig    = regexp.MustCompile(`^\((` + typeForm + `)*\)(V|` + typeForm + `)$`)
	aType    = regexp.MustCompile(typeForm)
)

func text(s string) api.Entry { return api.Entry{Kind: api.CText, Text: s} }

func number(n int64) api.Entry { return api.Entry{Kind: api.CNumber, N: n} }

func class(a int) api.Entry { return api.Entry{Kind: api.CClass, A: a} }

func typ(a int) api.Entry { return api.Entry{Kind: api.CType, A: a} }

func field(a, b, c int) api.Entry { return api.Entry{Kind: api.CField, A: a, B: b, C: c} }

func method(a, b, c int) api.Entry { return api.Entry{Kind: api.CMethod, A: a, B: b, C: c} }

// idle tells whether all fields that a kind does not use are zero.
func idle(e api.Entry) bool {
	var zero []bool
	s, n, a, bc := e.Text == "", e.N == 0, e.A == 0, e.B == 0 && e.C == 0
	switch e.Kind {
	case api.CText:
		zero = []bool{n, a, bc}
	case api.CNumber:
		zero = []bool{s, a, bc}
	case api.CClass, api.CType:
		zero = []bool{s, n, bc}
	default:
		zero = []bool{s, n}
	}
	for _, z := range zero {
		if !z {
			return false
		}
	}
	return true
}

// use is a number that an entry holds, of which kind the entry of that number must be, and what is wrong with its text.
type use struct {
	i, kind int
	fault   func(s string) api.Errno
}

func unless(form *regexp.Regexp, e api.Errno) func(string) api.Errno {
	return func(s string) api.Errno {
		if form.MatchString(s) {
			return api.OK
		}
		return e
	}
}

func sigFault(s string) api.Errno {
	if !isSig.MatchString(s) {
		return api.ErrType
	}
	within := s[1:strings.IndexByte(s, ')')]
	if len(aType.FindAllString(within, -1)) > 16 {
		return api.ErrMany
	}
	return api.OK
}

func uses(e api.Entry) []use {
	name, kind := unless(isName, api.ErrName), unless(isType, api.ErrType)
	anyText := func(string) api.Errno { return api.OK }
	switch e.Kind {
	case api.CClass:
		return []use{{e.A, api.CText, name}}
	case api.CType:
		return []use{{e.A, api.CText, kind}}
	case api.CField:
		return []use{{e.A, api.CClass, anyText}, {e.B, api.CText, name}, {e.C, api.CText, kind}}
	case api.CMethod:
		return []use{{e.A, api.CClass, anyText}, {e.B, api.CText, unless(isMethod, api.ErrName)}, {e.C, api.CText, sigFault}}
	}
	return nil
}

// fault is what is wrong with an entry of a list.
func fault(l []api.Entry, i int) api.Errno {
	e := l[i]
	switch {
	case !strings.Contains(" 1 2 3 4 5 6 ", " "+strconv.Itoa(e.Kind)+" "):
		return api.ErrKind
	case !idle(e):
		return api.ErrArg
	case e.Kind == api.CText && len(e.Text) > 255:
		return api.ErrLong
	}
	for _, u := range uses(e) {
		if u.i < 0 || u.i >= len(l) || l[u.i].Kind != u.kind {
			return api.ErrEntry
		}
		if f := u.fault(l[u.i].Text); f != api.OK {
			return f
		}
	}
	return api.OK
}

// says is what an entry says, in words that tell its kind and all that it uses, if it is of that kind; else why it says nothing.
func says(l []api.Entry, i, kind int) (string, api.Errno) {
	if i < 0 || i >= len(l) || l[i].Kind != kind {
		return "", api.ErrEntry
	}
	if f := fault(l, i); f != api.OK {
		return "", f
	}
	e := l[i]
	switch kind {
	case api.CText:
		return "text " + e.Text, api.OK
	case api.CNumber:
		return "number " + strconv.FormatInt(e.N, 10), api.OK
	case api.CClass:
		return "class " + l[e.A].Text, api.OK
	case api.CType:
		return "type " + l[e.A].Text, api.OK
	}
	c, f := says(l, e.A, api.CClass)
	if f != api.OK {
		return "", f
	}
	word := "field "
	if kind == api.CMethod {
		word = "method "
	}
	return word + c + " " + l[e.B].Text + " " + l[e.C].Text, api.OK
}

// told is the number of the first entry that says that and uses such entries alone; else -1.
func told(l []api.Entry, what string) int {
	for i, e := range l {
		s, f := says(l, i, e.Kind)
		if f != api.OK || s != what {
			continue
		}
		first := true
		for _, u := range uses(e) {
			s, _ := says(l, u.i, u.kind)
			first = first && told(l, s) == u.i
		}
		if first {
			return i
		}
	}
	return -1
}

// wrongNumbers are beside those of a list.
var wrongNumbers = []int{-1, -1 << 63, 1<<63 - 1, 4096, 1 << 16}

// someNumber is mostly that of one of the first of n entries, now and then of none.
func someNumber(r *rand.Rand, n int) int {
	switch r.Intn(12) {
	case 0:
		return append(wrongNumbers, n)[r.Intn(len(wrongNumbers)+1)]
	case 1, 2, 3:
		return r.Intn(n)
	}
	return r.Intn(min(n, 6))
}

// someEntry is one of a list of n entries, mostly right by itself.
func someEntry(r *rand.Rand, n int) api.Entry {
	texts := []string{"A", "A", "x", "I", "I", "LA;", "[I", "()V", "()V", "(I)I", "<init>", "<init>", "1", "", "(" + strings.Repeat("I", 17) + ")V", strings.Repeat("y", 255), strings.Repeat("y", 256), "()L" + strings.Repeat("y", 32) + ";"}
	e := text(texts[r.Intn(len(texts))])
	switch r.Intn(12) {
	case 0:
		e = number(int64(r.Intn(3) - 1))
	case 1, 2, 3:
		e = class(someNumber(r, n))
	case 4:
		e = typ(someNumber(r, n))
	case 5, 6:
		e = field(someNumber(r, n), someNumber(r, n), someNumber(r, n))
	case 7, 8:
		e = method(someNumber(r, n), someNumber(r, n), someNumber(r, n))
	}
	switch r.Intn(80) {
	case 0:
		e.Kind = r.Intn(10) - 2
	case 1:
		e.Text = "z"
	case 2:
		e.N = -1
	case 3:
		e.A = 1
	case 4:
		e.B = 1
	case 5:
		e.C = -1
	}
	return e
}

// someList is up to 8 entries, or some behind a few that are good to be used, one of which may be another one.
func someList(r *rand.Rand) []api.Entry {
	var l []api.Entry
	if r.Intn(3) > 0 {
		l = []api.Entry{text("A"), class(0), text("I"), text("()V"), text("<init>"), text("(" + strings.Repeat("I", 17) + ")V")}
	}
	had := len(l)
	l = append(l, make([]api.Entry, r.Intn(9))...)
	for i := had; i < len(l); i++ {
		l[i] = someEntry(r, len(l))
	}
	if had > 0 && r.Intn(3) == 0 {
		l[r.Intn(had)] = someEntry(r, len(l))
	}
	return l
}
