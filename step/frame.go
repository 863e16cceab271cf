package step

import (
	"keystone/api"
	"keystone/frames"
)

// frame is api's, whose Stack is taken from and put on. Nobody else has it, so that it may be written over; where an error is told, it is thrown away as it is.
type frame struct{ api.Frame }

// known is knowledge of a kind that has no type.
func known(kind int) api.VType { return api.VType{Kind: kind} }

// take takes a value for each want, and tells them as they were taken.
func (f *frame) take(l ...want) ([]api.VType, api.Errno) {
	var taken []api.VType
	for _, wrong := range l {
		last := len(f.Stack) - 1
		if last < 0 {
			return nil, api.ErrUnder
		}
		v := f.Stack[last]
		if err := wrong(v); err != api.OK {
			return nil, err
		}
		f.Stack = f.Stack[:last]
		taken = append(taken, v)
	}
	return taken, api.OK
}

// drop takes values that nobody asks for any more.
func (f *frame) drop(l ...want) api.Errno {
	_, err := f.take(l...)
	return err
}

// turn takes values, and puts one for them.
func (f *frame) turn(to api.VType, l ...want) api.Errno {
	err := f.drop(l...)
	f.push(to)
	return err
}

func (f *frame) push(l ...api.VType) { f.Stack = append(f.Stack, l...) }

// rename puts one knowledge in the place of another one, everywhere.
func (f *frame) rename(from, to api.VType) { f.Frame = frames.Swap(f.Frame, from, to) }
