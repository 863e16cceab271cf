package module_test

import (
	"fmt"
	"math"
	"math/rand"
	"reflect"
	"strconv"
	"strings"

	"keystone/api"
	"keystone/instr"
	"keystone/pool"
)

// image is all that a value holds, as text; lists that are nil and empty ones have the same. With room it shows the spare room of lists, too.
func image(x any, room bool) string {
	var b strings.Builder
	draw(&b, reflect.ValueOf(x), room)
	return b.String()
}

func draw(b *strings.Builder, v reflect.Value, room bool) {
	switch v.Kind() {
	case reflect.Slice:
		l := v
		if room {
			l = v.Slice(0, v.Cap())
		}
		b.WriteString(strconv.Itoa(v.Len()) + "[")
		for i := range l.Len() {
			draw(b, l.Index(i), room)
		}
		b.WriteString("]")
	case reflect.Struct:
		b.WriteString("{")
		for i := range v.NumField() {
			draw(b, v.Field(i), room)
		}
		b.WriteString("}")
	case reflect.String:
		b.WriteString(strconv.Quote(v.String()) + " ")
	default:
		fmt.Fprint(b, v.Interface(), " ")
	}
}

// roomy is a module that is the same, whose lists all have spare room with something in it.
func roomy(m api.Module) api.Module {
	v := reflect.New(reflect.TypeOf(m)).Elem()
	v.Set(reflect.ValueOf(m))
	widen(v)
	return v.Interface().(api.Module)
}

func widen(v reflect.Value) {
	switch v.Kind() {
	case reflect.Slice:
		l := reflect.MakeSlice(v.Type(), v.Len()+2, v.Len()+2)
		reflect.Copy(l, v)
		for i := v.Len(); i < l.Len(); i++ {
			fill(l.Index(i))
		}
		for i := range v.Len() {
			widen(l.Index(i))
		}
		v.Set(l.Slice(0, v.Len()))
	case reflect.Struct:
		for i := range v.NumField() {
			widen(v.Field(i))
		}
	}
}

// fill puts into a value what can be told from all else.
func fill(v reflect.Value) {
	switch v.Kind() {
	case reflect.Int, reflect.Int64:
		v.SetInt(77)
	case reflect.Uint8:
		v.SetUint(77)
	case reflect.String:
		v.SetString("spare")
	case reflect.Struct:
		for i := range v.NumField() {
			fill(v.Field(i))
		}
	}
}

// spoil writes over all that a value's lists hold, their spare room too.
func spoil(x any) { overwrite(reflect.ValueOf(x)) }

func overwrite(v reflect.Value) {
	switch v.Kind() {
	case reflect.Slice:
		l := v.Slice(0, v.Cap())
		for i := range l.Len() {
			overwrite(l.Index(i))
			fill(l.Index(i))
		}
	case reflect.Struct:
		for i := range v.NumField() {
			overwrite(v.Field(i))
		}
	}
}

// span is the memory of a list, with its spare room.
type span struct{ from, to uintptr }

func spans(v reflect.Value) []span {
	var l []span
	switch v.Kind() {
	case reflect.Slice:
		if size := v.Type().Elem().Size(); v.Cap() > 0 && size > 0 {
			l = append(l, span{v.Pointer(), v.Pointer() + uintptr(v.Cap())*size})
		}
		for i := range v.Len() {
			l = append(l, spans(v.Index(i))...)
		}
	case reflect.Struct:
		for i := range v.NumField() {
			l = append(l, spans(v.Field(i))...)
		}
	}
	return l
}

// shared is whether two lists in these values share memory.
func shared(l ...any) bool {
	var all []span
	for _, x := range l {
		all = append(all, spans(reflect.ValueOf(x))...)
	}
	for i, a := range all {
		for _, b := range all[:i] {
			if a.from < b.to && b.from < a.to {
				return true
			}
		}
	}
	return false
}

// somePool is a pool of all kinds; its numbers are those of the entries for code.
func somePool() (l []api.Entry, numbers map[int]int) {
	b := pool.New()
	b.Text("x y")
	number, _ := b.Number(-7)
	class, _ := b.Class("A")
	row, _ := b.Type(api.Type{Dims: 1})
	field, _ := b.Field("A", "x", api.Type{Dims: 2, Name: "A"})
	method, _ := b.Method("A", "f", api.Sig{Params: []api.Type{{}}, Void: true})
	made, _ := b.Method("A", "<init>", api.Sig{Void: true})
	return b.Pool(), map[int]int{api.INumber: number, api.INew: class, api.ICast: row, api.IArray: row, api.IGet: field, api.IPutS: field, api.ICall: method, api.IStatic: method, api.IInit: made}
}

// code is instructions, one behind the other.
func code(l ...api.Instr) []byte {
	b, e := instr.Encode(l...)
	if e != api.OK {
		panic(e)
	}
	return b
}

// full is a module with something of everything: an interface, a class, an abstract class.
func full() api.Module {
	l, n := somePool()
	row := func() api.Sig { return api.Sig{Params: []api.Type{{Dims: 1}}} }
	return api.Module{Pool: l, Classes: []api.Class{
		{Flags: api.FFace, Name: "F", Super: "Object", Faces: []string{"G"}, Methods: []api.Method{
			{Flags: api.FAbstract, Name: "f", Sig: row()},
			{Flags: api.FAbstract, Name: "f", Sig: api.Sig{Void: true}},
		}},
		{Name: "A", Super: "Object", Faces: []string{"F", "H"}, Fields: []api.Field{
			{Name: "x", Type: api.Type{Dims: 2, Name: "A"}},
			{Flags: api.FStatic, Name: "y"},
		}, Methods: []api.Method{
			{Name: "<init>", Sig: api.Sig{Void: true}, Stack: 1, Locals: 1, Code: code(api.Instr{Op: api.ILoad}, api.Instr{Op: api.IInit, N: n[api.IInit]}, api.Instr{Op: api.IReturn})},
			{Name: "f", Sig: row(), Stack: 2, Locals: 3, Code: code(api.Instr{Op: api.INumber, N: n[api.INumber]}, api.Instr{Op: api.IStore, N: 2}, api.Instr{Op: api.ILoad, N: 2}, api.Instr{Op: api.IGive}), Handlers: []api.Handler{
				{From: 0, To: 3, At: 7, Class: "Throwable"},
				{From: 3, To: 8, At: 0, Class: "DivError"},
			}},
			{Flags: api.FStatic, Name: "f", Sig: api.Sig{Params: []api.Type{{}, {Name: "B"}}, Void: true}, Locals: 2, Code: []byte{api.IReturn}},
		}},
		{Flags: api.FAbstract, Name: "B", Super: "A", Methods: []api.Method{
			{Flags: api.FAbstract, Name: "g", Sig: api.Sig{Void: true}},
			{Name: "h", Sig: api.Sig{Void: true}, Locals: 1, Code: []byte{api.IReturn}},
		}},
	}}
}

// someCode is code that fits the pool of somePool, and the places of its instructions.
func someCode(r *rand.Rand, locals int, numbers map[int]int) ([]byte, []int) {
	ops := []int{api.INop, api.IAdd, api.IGive, api.INumber, api.IJump, api.IZero, api.INew, api.ICast, api.IGet, api.ICall, api.IInit, api.IReturn}
	if locals > 0 {
		ops = append(ops, api.ILoad, api.IStore)
	}
	var l []api.Instr
	var places []int
	at := 0
	for range 1 + r.Intn(8) {
		i := api.Instr{Op: ops[r.Intn(len(ops))]}
		i.N = numbers[i.Op]
		if i.Op == api.ILoad || i.Op == api.IStore {
			i.N = r.Intn(locals)
		}
		places = append(places, at)
		at += instr.Size(i.Op)
		l = append(l, i)
	}
	for i := range l {
		if l[i].Op == api.IJump || l[i].Op == api.IZero {
			l[i].N = places[r.Intn(len(places))]
		}
	}
	return code(l...), places
}

func someType(r *rand.Rand) api.Type {
	return api.Type{Dims: r.Intn(9), Name: []string{"", "A", "Node_9", strings.Repeat("x", 32)}[r.Intn(4)]}
}

func someSig(r *rand.Rand) api.Sig {
	g := api.Sig{Void: r.Intn(2) == 0}
	for range r.Intn(4) {
		g.Params = append(g.Params, someType(r))
	}
	if !g.Void {
		g.Result = someType(r)
	}
	return g
}

func someMethod(r *rand.Rand, class api.Class, name string, numbers map[int]int) api.Method {
	x := api.Method{Flags: []int{0, api.FStatic, api.FAbstract}[r.Intn(3)], Name: name, Sig: someSig(r)}
	if x.Flags == api.FAbstract && class.Flags == 0 {
		x.Flags = 0
	}
	if class.Flags == api.FFace {
		x.Flags = api.FAbstract
	}
	if class.Flags != api.FFace && r.Intn(4) == 0 {
		x.Flags, x.Name = 0, "<init>"
		x.Sig = api.Sig{Void: true}
		for range len(class.Methods) { // as many as are ahead, so that no two are the same
			x.Sig.Params = append(x.Sig.Params, api.Type{})
		}
	}
	if x.Flags == api.FAbstract {
		return x
	}
	x.Stack, x.Locals = r.Intn(65), len(x.Sig.Params)+1+r.Intn(9)
	var places []int
	x.Code, places = someCode(r, x.Locals, numbers)
	for range r.Intn(3) {
		from := r.Intn(len(places))
		to := append(places, len(x.Code))[from+1+r.Intn(len(places)-from)]
		x.Handlers = append(x.Handlers, api.Handler{From: places[from], To: to, At: places[r.Intn(len(places))], Class: "E" + strconv.Itoa(r.Intn(3))})
	}
	return x
}

func someClass(r *rand.Rand, name string, numbers map[int]int) api.Class {
	c := api.Class{Flags: r.Intn(3), Name: name, Super: "Object"}
	for i := range r.Intn(3) {
		c.Faces = append(c.Faces, "F"+strconv.Itoa(i))
	}
	if c.Flags != api.FFace {
		c.Super = "C" + strconv.Itoa(r.Intn(5))
		for i := range r.Intn(4) {
			c.Fields = append(c.Fields, api.Field{Flags: 4 * r.Intn(2), Name: "f" + strconv.Itoa(i), Type: someType(r)})
		}
	}
	for i := range r.Intn(4) {
		c.Methods = append(c.Methods, someMethod(r, c, "m"+strconv.Itoa(i), numbers))
	}
	return c
}

// someModule is a module that is right.
func someModule(r *rand.Rand) api.Module {
	l, numbers := somePool()
	m := api.Module{Pool: l}
	for i := range r.Intn(4) {
		m.Classes = append(m.Classes, someClass(r, "C"+strconv.Itoa(i), numbers))
	}
	return m
}

// odd is a number that is seldom right.
func odd(r *rand.Rand) int {
	l := []int{math.MinInt, -1, 0, 1, 2, 3, 4, 5, 6, 7, 8, 16, 17, 32, 33, 63, 64, 65, 255, 256, 65535, 65536, math.MaxInt}
	return l[r.Intn(len(l))]
}

// oddText is a text that is seldom right where it stands.
func oddText(r *rand.Rand) string {
	l := []string{"", "A", "Object", "C0", "C1", "f0", "m0", "m1", "F0", "<init>", "1", "a b", "[", "\xff", strings.Repeat("x", 32), strings.Repeat("x", 33), strings.Repeat("x", 255), strings.Repeat("x", 256)}
	return l[r.Intn(len(l))]
}

// wound changes one thing of a module, wherever it stands: a number, a text, a list that becomes longer or shorter.
func wound(r *rand.Rand, m *api.Module) {
	var l []reflect.Value
	var walk func(v reflect.Value)
	walk = func(v reflect.Value) {
		switch v.Kind() {
		case reflect.Slice:
			l = append(l, v)
			if v.Type().Elem() == reflect.TypeFor[api.Entry]() && r.Intn(4) > 0 {
				return // the pool is not all that is wounded
			}
			for i := range v.Len() {
				walk(v.Index(i))
			}
		case reflect.Struct:
			for i := range v.NumField() {
				walk(v.Field(i))
			}
		default:
			l = append(l, v)
		}
	}
	walk(reflect.ValueOf(m).Elem())
	change(r, l[r.Intn(len(l))])
}

func change(r *rand.Rand, v reflect.Value) {
	switch v.Kind() {
	case reflect.Int, reflect.Int64:
		v.SetInt(int64(odd(r)))
	case reflect.Uint8:
		v.SetUint(uint64(odd(r)) & 255)
	case reflect.String:
		v.SetString(oddText(r))
	case reflect.Bool:
		v.SetBool(!v.Bool())
	case reflect.Slice:
		resize(r, v)
	}
}

// resize takes an element out of a list, or all, puts one in again, or so many that the list may be too long.
func resize(r *rand.Rand, v reflect.Value) {
	if v.Len() == 0 {
		v.Set(reflect.MakeSlice(v.Type(), 1, 1))
		return
	}
	i := r.Intn(v.Len())
	switch r.Intn(4) {
	case 0:
		v.Set(reflect.AppendSlice(v.Slice(0, i), v.Slice(i+1, v.Len())))
	case 1:
		v.Set(reflect.Append(v, v.Index(i)))
	case 2:
		for range []int{1, 15, 31, 63}[r.Intn(4)] {
			v.Set(reflect.Append(v, v.Index(i)))
		}
	case 3:
		v.Set(v.Slice(0, 0))
	}
}
