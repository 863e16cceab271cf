package verify

import (
	"slices"

	"keystone/api"
	"keystone/instr"
)

// run is instructions that are gone through in one go: ways come in ahead of the first one alone, and go elsewhere behind the last one alone; and what a handler would find in the Locals is the same ahead of each.
type run struct {
	code     []api.Instr
	handlers []api.Handler // those that cover it
	known    api.Frame     // ahead of the first one, as far as ways came there
}

func (r run) place() int { return r.code[0].At }

func (r run) last() api.Instr { return r.code[len(r.code)-1] }

// runs cuts the method's code, all of it.
func (s site) runs() []run {
	all, _, _ := instr.All(s.Code)
	cut := s.cuts(all)
	var l []run
	for _, i := range all {
		if cut[i.At] {
			l = append(l, run{handlers: s.covering(i)})
		}
		r := &l[len(l)-1]
		r.code = append(r.code, i)
	}
	return l
}

// cuts tells of each place, the code's end too, whether a run may not go on over it.
func (s site) cuts(all []api.Instr) []bool {
	cut := make([]bool, len(s.Code)+1)
	cut[0] = true
	for _, h := range s.Handlers {
		cut[h.From], cut[h.To], cut[h.At] = true, true, true
	}
	for _, i := range all {
		behind, next := i.At+i.Size, instr.Next(i)
		if slices.Equal(next, []int{behind}) && !s.stirs(i) {
			continue
		}
		cut[behind] = true
		for _, place := range next {
			cut[place] = true
		}
	}
	return cut
}

func (s site) covering(i api.Instr) []api.Handler {
	var l []api.Handler
	for _, h := range s.Handlers {
		if h.From <= i.At && i.At < h.To {
			l = append(l, h)
		}
	}
	return l
}

// stirs tells whether behind an instruction a handler may find more than ahead of it: most change the Stack alone, of which it finds nothing.
func (s site) stirs(i api.Instr) bool {
	switch i.Op {
	case api.IStore, api.INew, api.IInit:
		return len(s.covering(i)) > 0
	}
	return false
}
