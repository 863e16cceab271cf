package arena_test

import (
	"encoding/binary"

	"keystone/api"
)

// thing is an object, row those of a half, model the words of the chapter written a second time: objects are objects, addresses are counted anew each time.
type thing struct {
	kind  int
	slots []int64
}

type row []*thing

type model struct {
	semi        int
	used, ahead row
	moved       map[*thing]*thing
}

func newModel(semi int) *model { return &model{semi: semi, moved: map[*thing]*thing{}} }

func (l row) bytes() []byte {
	var b []byte
	for _, x := range l {
		b = binary.BigEndian.AppendUint64(b, uint64(x.kind))
		b = binary.BigEndian.AppendUint64(b, uint64(len(x.slots)))
		for _, v := range x.slots {
			b = binary.BigEndian.AppendUint64(b, uint64(v))
		}
	}
	return b
}

// address is that of the object with this number, at is the object of an address.
func (l row) address(n int) int64 { return 8 + int64(len(l[:n].bytes())) }

func (l row) at(at int64) *thing {
	for n, x := range l {
		if l.address(n) == at {
			return x
		}
	}
	return nil
}

func (l row) where(x *thing) int64 {
	for n := range l {
		if l[n] == x {
			return l.address(n)
		}
	}
	return 0
}

func (m *model) Make(kind, slots int) (int64, api.Errno) {
	if slots < 0 || slots > 65536 {
		return 0, api.ErrArg
	}
	if !m.Room(slots) {
		return 0, api.ErrFull
	}
	m.used = append(m.used, &thing{kind, make([]int64, slots)})
	return m.used.address(len(m.used) - 1), api.OK
}

func (m *model) Kind(at int64) (int, api.Errno) {
	if x := m.used.at(at); x != nil {
		return x.kind, api.OK
	}
	return 0, api.ErrAddr
}

func (m *model) Slots(at int64) (int, api.Errno) {
	if x := m.used.at(at); x != nil {
		return len(x.slots), api.OK
	}
	return 0, api.ErrAddr
}

func (m *model) slot(at int64, slot int) (*int64, api.Errno) {
	x := m.used.at(at)
	if x == nil {
		return nil, api.ErrAddr
	}
	if slot < 0 || slot >= len(x.slots) {
		return nil, api.ErrArg
	}
	return &x.slots[slot], api.OK
}

func (m *model) Get(at int64, slot int) (int64, api.Errno) {
	v, e := m.slot(at, slot)
	if e != api.OK {
		return 0, e
	}
	return *v, api.OK
}

func (m *model) Put(at int64, slot int, v int64) api.Errno {
	p, e := m.slot(at, slot)
	if e == api.OK {
		*p = v
	}
	return e
}

func (m *model) Used() int { return len(m.used.bytes()) }

func (m *model) Room(slots int) bool {
	return slots >= 0 && slots <= 65536 && m.Used()+16+8*slots <= m.semi
}

func (m *model) All() []int64 {
	var l []int64
	for n := range m.used {
		l = append(l, m.used.address(n))
	}
	return l
}

func (m *model) Bytes() []byte { return m.used.bytes() }

func (m *model) Flip() {
	m.used, m.ahead, m.moved = nil, m.used, map[*thing]*thing{}
}

func (m *model) Copy(at int64) (int64, api.Errno) {
	x := m.ahead.at(at)
	if x == nil {
		return 0, api.ErrAddr
	}
	if y := m.moved[x]; y != nil {
		return m.used.where(y), api.OK
	}
	now, e := m.Make(x.kind, len(x.slots))
	if e != api.OK {
		return 0, e
	}
	y := m.used[len(m.used)-1]
	copy(y.slots, x.slots)
	m.moved[x] = y
	return now, api.OK
}
