package gc

import "slices"

// mostTold is how many slots an answer may tell within the limits of bytes.
const mostTold = (1<<31 - 1) / word

// Table is a Shape by lists: of kind k the slots l[k] hold addresses; of a kind below 0 all do, where it is even, none, where it is odd.
type Table [][]int

func (t Table) Refs(kind, slots int) []int {
	switch {
	case kind >= 0 && kind < len(t):
		return slices.Clone(t[kind])
	case kind < 0 && kind%2 == 0:
		return all(slots)
	}
	return nil
}

// all are the slots from 0 on; no object has more than may be told.
func all(slots int) []int {
	if slots < 0 || slots > mostTold {
		return nil
	}
	l := make([]int, slots)
	for slot := range l {
		l[slot] = slot
	}
	return l
}
