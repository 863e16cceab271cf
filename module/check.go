package module

import (
	"slices"

	"keystone/api"
	"keystone/desc"
	"keystone/instr"
	"keystone/pool"
)

const (
	top         = "Object" // above every interface
	constructor = "<init>"
	mostSig     = 255 // bytes of a signature's text: a byte tells its length
)

// Check tells whether a module is one; Read reads its bytes, Write writes them.
func Check(m api.Module) error {
	if at, e := pool.Check(m.Pool); e != api.OK {
		return &Bad{At: at, Err: e}
	}
	if len(m.Classes) > api.MaxClasses {
		return &Bad{Err: api.ErrMany}
	}
	for i, c := range m.Classes {
		if err := checkClass(c, m.Pool); err != nil {
			return inClass(i, err)
		}
	}
	// Only now: what is wrong inside a later class comes ahead of a name that stands twice.
	for i, c := range m.Classes {
		if slices.ContainsFunc(m.Classes[:i], func(ahead api.Class) bool { return ahead.Name == c.Name }) {
			return inClass(i, api.ErrTwice)
		}
	}
	return nil
}

func checkClass(c api.Class, entries []api.Entry) error {
	if err := checkHead(c); err != nil {
		return err
	}
	if err := members(c.Faces, api.MaxFaces, checkFace); err != nil {
		return err
	}
	if err := members(c.Fields, api.MaxFields, checkField); err != nil {
		return err
	}
	return members(c.Methods, api.MaxMethods, func(ahead []api.Method, m api.Method) error {
		if err := checkHeading(ahead, m); err != nil {
			return err
		}
		if err := checkFlags(c, m); err != nil {
			return err
		}
		return checkBody(m, entries)
	})
}

// members tells the first error of a list, with the number of its element; an element is held against those ahead of it.
func members[T any](l []T, most int, check func(ahead []T, x T) error) error {
	if len(l) > most {
		return api.ErrMany
	}
	for i, x := range l {
		if err := check(l[:i], x); err != nil {
			return inMember(i, err)
		}
	}
	return nil
}

// checkHead asks for the number of Faces, too: it comes ahead of what an interface may not have.
func checkHead(c api.Class) error {
	switch c.Flags {
	case 0, api.FFace, api.FAbstract:
	default:
		return api.ErrFlags
	}
	if !desc.Name(c.Name) || !desc.Name(c.Super) {
		return api.ErrName
	}
	if len(c.Faces) > api.MaxFaces {
		return api.ErrMany
	}
	if c.Flags == api.FFace && c.Super != top {
		return api.ErrSuper
	}
	if c.Flags == api.FFace && len(c.Fields) > 0 {
		return api.ErrFace
	}
	return nil
}

func checkFace(ahead []string, name string) error {
	if !desc.Name(name) {
		return api.ErrName
	}
	if slices.Contains(ahead, name) {
		return api.ErrTwice
	}
	return nil
}

func checkField(ahead []api.Field, f api.Field) error {
	if f.Flags != 0 && f.Flags != api.FStatic {
		return api.ErrFlags
	}
	if !desc.Name(f.Name) {
		return api.ErrName
	}
	if e := desc.Check(f.Type); e != api.OK {
		return e
	}
	if slices.ContainsFunc(ahead, func(g api.Field) bool { return g.Name == f.Name }) {
		return api.ErrTwice
	}
	return nil
}

// checkHeading asks what every method must have, whatever its class is.
func checkHeading(ahead []api.Method, m api.Method) error {
	switch m.Flags {
	case 0, api.FAbstract, api.FStatic:
	default:
		return api.ErrFlags
	}
	if !desc.Method(m.Name) {
		return api.ErrName
	}
	text, e := desc.SigText(m.Sig)
	if e != api.OK {
		return e
	}
	if len(text) > mostSig {
		return api.ErrLong
	}
	if slices.ContainsFunc(ahead, func(n api.Method) bool { return n.Name == m.Name && desc.Same(n.Sig, m.Sig) }) {
		return api.ErrTwice
	}
	return nil
}

// checkFlags asks whether a method may be what it is, by its name and its class.
func checkFlags(c api.Class, m api.Method) error {
	abstract := m.Flags == api.FAbstract
	switch {
	case m.Name == constructor && m.Flags != 0:
		return api.ErrFlags
	case m.Name == constructor && !m.Sig.Void:
		return api.ErrType
	case c.Flags == api.FFace && !abstract:
		return api.ErrFace
	case c.Flags == 0 && abstract:
		return api.ErrFlags
	}
	return nil
}

func checkBody(m api.Method, entries []api.Entry) error {
	if m.Flags == api.FAbstract {
		if m.Stack != 0 || m.Locals != 0 || len(m.Code) > 0 || len(m.Handlers) > 0 {
			return api.ErrArg
		}
		return nil
	}
	if m.Stack < 0 || m.Stack > api.MaxStack || m.Locals < 0 || m.Locals > api.MaxLocals {
		return api.ErrArg
	}
	if m.Locals < handedIn(m) {
		return api.ErrLocal
	}
	if at, e := instr.Check(m.Code, entries, m.Locals); e != api.OK {
		return &Bad{At: at, Err: e}
	}
	return checkHandlers(m)
}

// handedIn is how many locals are filled when the method begins: one that is not static has its own object, too.
func handedIn(m api.Method) int {
	if m.Flags == api.FStatic {
		return len(m.Sig.Params)
	}
	return len(m.Sig.Params) + 1
}

// checkHandlers is asked of code that instr.Check took.
func checkHandlers(m api.Method) error {
	if len(m.Handlers) > api.MaxHandlers {
		return api.ErrMany
	}
	l, _, _ := instr.All(m.Code)
	begins := make([]bool, len(m.Code))
	for _, i := range l {
		begins[i.At] = true
	}
	for i, h := range m.Handlers {
		if e := checkHandler(begins, h); e != api.OK {
			return &Bad{At: i, Err: e}
		}
	}
	return nil
}

// checkHandler is told of each place of the code whether an instruction begins there.
func checkHandler(begins []bool, h api.Handler) api.Errno {
	place := func(at int) bool { return at >= 0 && at < len(begins) && begins[at] }
	if !place(h.From) || !place(h.To) && h.To != len(begins) || h.From >= h.To {
		return api.ErrRange
	}
	if !place(h.At) {
		return api.ErrTarget
	}
	if !desc.Name(h.Class) {
		return api.ErrName
	}
	return api.OK
}
