package typing

import (
	"keystone/api"
	"keystone/frames"
	"keystone/instr"
	"keystone/step"
)

// question is one thing that is asked of an instruction: what is wrong with it.
type question func() api.Errno

// meeting is what is done where a frame comes to the instruction of a number, and what is wrong with that.
type meeting func(n int, f api.Frame) api.Errno

// questions are all that is asked of instructions that are gone through in one go, in a frame: whether they can be done; of each place to which the last one goes on; of each handler that covers the first one. None is asked where nothing comes.
func (b body) questions(f api.Frame, meet meeting, l ...api.Instr) []question {
	if !frames.Reached(f) {
		return nil
	}
	var behind api.Frame
	row := []question{func() api.Errno {
		out, _, err := step.Row(b.world, b.class, b.number, f, l...)
		behind = out
		return err
	}}
	for _, place := range instr.Next(l[len(l)-1]) {
		row = append(row, func() api.Errno {
			n, begins := b.at(place)
			if !begins {
				return api.ErrEnd
			}
			return meet(n, behind)
		})
	}
	for _, h := range b.covering(l[0]) {
		row = append(row, b.room, func() api.Errno {
			n, _ := b.at(h.At)
			return meet(n, frames.Catch(f, h.Class))
		})
	}
	return row
}

// room asks for a place on the Stack for what is caught.
func (b body) room() api.Errno {
	if b.Stack == 0 {
		return api.ErrOver
	}
	return api.OK
}

// first is the first thing that is wrong; those behind it are not asked.
func first(l ...question) api.Errno {
	for _, ask := range l {
		if err := ask(); err != api.OK {
			return err
		}
	}
	return api.OK
}
