package arena

import (
	"slices"

	"keystone/api"
)

const (
	word  = 8        // bytes of a number
	head  = 2 * word // those ahead of an object's slots: its kind, how many they are
	first = 8        // the address of an object ahead of which nothing lies
)

// half is a row of objects as bytes, each right behind the one ahead; it grows up to most bytes.
type half struct {
	most  int
	bytes []byte
	heads []bool // for each number's place, whether an object begins there: a slot may hold what looks like one
}

// Make lays an object down: its kind, how many slots of eight bytes; ErrFull: no room is left.
func (h *half) Make(kind, slots int) (int64, api.Errno) {
	if !mayBe(slots) {
		return 0, api.ErrArg
	}
	if !h.Room(slots) {
		return 0, api.ErrFull
	}
	place := h.Used()
	h.grow(sizeOf(slots))
	h.heads[place/word] = true
	h.lay(place, int64(kind))
	h.lay(place+word, int64(slots))
	return addressOf(place), api.OK
}

// Kind, Slots tell what an address has; Get, Put a slot.
func (h *half) Kind(at int64) (int, api.Errno) {
	place, err := h.find(at)
	if err != api.OK {
		return 0, err
	}
	return h.kind(place), api.OK
}

func (h *half) Slots(at int64) (int, api.Errno) {
	place, err := h.find(at)
	if err != api.OK {
		return 0, err
	}
	return h.slots(place), api.OK
}

func (h *half) Get(at int64, slot int) (int64, api.Errno) {
	place, err := h.findSlot(at, slot)
	if err != api.OK {
		return 0, err
	}
	return h.number(place), api.OK
}

func (h *half) Put(at int64, slot int, v int64) api.Errno {
	place, err := h.findSlot(at, slot)
	if err == api.OK {
		h.lay(place, v)
	}
	return err
}

// Used tells how many bytes are, Room whether so many slots more find room; All goes over the addresses; Bytes is the half that is used.
func (h *half) Used() int { return len(h.bytes) }

func (h *half) Room(slots int) bool { return mayBe(slots) && sizeOf(slots) <= h.most-h.Used() }

func (h *half) All() []int64 {
	var all []int64
	for place := 0; place < h.Used(); place += sizeOf(h.slots(place)) {
		all = append(all, addressOf(place))
	}
	return all
}

func (h *half) Bytes() []byte { return slices.Clone(h.bytes) }

// empty keeps the memory, as what is made anew is laid over it with noughts.
func (h *half) empty() { h.bytes, h.heads = h.bytes[:0], h.heads[:0] }

func (h *half) grow(size int) {
	h.bytes = append(h.bytes, make([]byte, size)...)
	h.heads = append(h.heads, make([]bool, size/word)...)
}

// find is the place at which the object of an address begins, findSlot that of its slot.
func (h *half) find(at int64) (int, api.Errno) {
	// Ahead of all else, as the least numbers less 8 would be great ones.
	if at < first {
		return 0, api.ErrAddr
	}
	n := (at - first) / word
	if at%word != 0 || n >= int64(len(h.heads)) || !h.heads[n] {
		return 0, api.ErrAddr
	}
	return placeOf(at), api.OK
}

func (h *half) findSlot(at int64, slot int) (int, api.Errno) {
	place, err := h.find(at)
	if err != api.OK {
		return 0, err
	}
	if slot < 0 || slot >= h.slots(place) {
		return 0, api.ErrArg
	}
	return place + head + slot*word, api.OK
}

// kind, slots and object are of the object that begins at a place.
func (h *half) kind(place int) int { return int(h.number(place)) }

func (h *half) slots(place int) int { return int(h.number(place + word)) }

func (h *half) object(place int) []byte { return h.bytes[place : place+sizeOf(h.slots(place))] }

// number reads one, lay lays one down: with its sign, the highest byte first.
func (h *half) number(place int) int64 {
	b := h.bytes[place : place+word]
	high := uint64(b[0])<<56 | uint64(b[1])<<48 | uint64(b[2])<<40 | uint64(b[3])<<32
	low := uint64(b[4])<<24 | uint64(b[5])<<16 | uint64(b[6])<<8 | uint64(b[7])
	return int64(high | low)
}

func (h *half) lay(place int, v int64) {
	b := h.bytes[place : place+word]
	for i := range b {
		b[i] = byte(v >> (8 * (word - 1 - i)))
	}
}

// mayBe tells whether an object may have so many slots; sizeOf is how many bytes it has then.
func mayBe(slots int) bool { return slots >= 0 && slots <= api.MaxArray }

func sizeOf(slots int) int { return head + word*slots }

// The address is 8 and the place, so that 0 is none.
func addressOf(place int) int64 { return int64(place) + first }

func placeOf(at int64) int { return int(at - first) }
