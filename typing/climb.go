package typing

import (
	"slices"

	"keystone/api"
	"keystone/frames"
	"keystone/instr"
	"keystone/step"
)

// climb raises frames as far as a typing must be above them, never further: so it ends, and where it can't go on there is none.
type climb struct {
	body
	known []api.Frame // ahead of each instruction; those ahead of which is no seam stay empty till they are told
	seams []bool      // the instructions that are not gone through in one go with the one ahead of them
	waits []bool      // those whose frames have risen since they were gone through
}

func newClimb(b body, l []api.Frame) *climb {
	c := &climb{body: b, seams: make([]bool, len(l)), waits: make([]bool, len(l))}
	for n, f := range l {
		c.known = append(c.known, frames.Twin(f))
		c.waits[n] = frames.Reached(f)
		c.seams[n] = n == 0 || c.waits[n]
	}
	c.sew()
	return c
}

// sew finds the seams that the code itself has: where ways come in, behind where they part, and wherever a handler looks on.
func (c *climb) sew() {
	for n, i := range c.list {
		handlers := c.covering(i)
		if len(handlers) > 0 {
			c.seams[n] = true
		}
		for _, h := range handlers {
			c.seam(h.At)
		}
		behind, next := i.At+i.Size, instr.Next(i)
		if !slices.Equal(next, []int{behind}) {
			c.seam(append(next, behind)...)
		}
	}
}

// seam sets those at some places; behind the code's end there is none.
func (c *climb) seam(places ...int) {
	for _, place := range places {
		if n, begins := c.at(place); begins {
			c.seams[n] = true
		}
	}
}

// meet raises the frame of an instruction by one that comes to it.
func (c *climb) meet(n int, f api.Frame) api.Errno {
	if frames.Below(c.world, f, c.known[n]) {
		return api.OK
	}
	up, err := frames.Join(c.world, c.known[n], f)
	if err != api.OK {
		return err
	}
	c.known[n], c.waits[n] = up, true
	return api.OK
}

// workOff goes on from what waits, the first one first, till nothing does, and tells whether it could.
func (c *climb) workOff() bool {
	for {
		n := slices.Index(c.waits, true)
		if n < 0 {
			return true
		}
		c.waits[n] = false
		if first(c.questions(c.known[n], c.meet, c.rowFrom(n)...)...) != api.OK {
			return false
		}
	}
}

// rowFrom are the instructions from a number on up to the next seam.
func (c *climb) rowFrom(n int) []api.Instr {
	end := n + 1
	for end < len(c.list) && !c.seams[end] {
		end++
	}
	return c.list[n:end]
}

// told are the frames of all instructions; what was gone through in one go is now told step by step.
func (c *climb) told() []api.Frame {
	for n := range c.known {
		if !c.seams[n] {
			// It could be done on the way up.
			c.known[n], _ = step.Step(c.world, c.class, c.number, c.list[n-1], c.known[n-1])
		}
	}
	return c.known
}
