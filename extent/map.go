package extent

import (
	"slices"

	"sheaf/api"
)

// Map is which sectors are free, as a plain list; all others from the first one on, below the number, are taken. It
// knows itself, because a copy of one that New returned is a Map that New did not return.
type Map struct {
	self          *Map
	from, sectors int
	free          []api.Run
}

func New(from, sectors int) (*Map, api.Errno) {
	if from < 0 || from > sectors || sectors > api.MaxSectors {
		return nil, api.ErrRange
	}
	m := &Map{from: from, sectors: sectors, free: Plain([]api.Run{{At: from, Len: sectors - from}})}
	m.self = m
	return m, api.OK
}

func (m *Map) Take(n int) ([]api.Run, api.Errno) {
	if !m.made() {
		return nil, api.ErrNil
	}
	l, e := Lowest(m.free, n)
	if e != api.OK {
		return nil, e
	}
	m.free = Minus(m.free, l)
	return l, api.OK
}

func (m *Map) Hold(l []api.Run) api.Errno {
	if e := m.refuses(l); e != api.OK {
		return e
	}
	if len(Minus(l, m.free)) > 0 {
		return api.ErrFull
	}
	m.free = Minus(m.free, l)
	return api.OK
}

func (m *Map) Give(l []api.Run) api.Errno {
	if e := m.refuses(l); e != api.OK {
		return e
	}
	if len(Common(l, m.free)) > 0 {
		return api.ErrNone
	}
	m.free = Join(m.free, l)
	return api.OK
}

func (m *Map) Free() []api.Run {
	if !m.made() {
		return nil
	}
	return slices.Clone(m.free)
}

func (m *Map) Room() int { return Count(m.Free()) }

// refuses tells why a list can be none of the map's sectors, whichever of them are taken.
func (m *Map) refuses(l []api.Run) api.Errno {
	if !m.made() {
		return api.ErrNil
	}
	if !May(l, m.from, m.sectors) {
		return api.ErrArg
	}
	return api.OK
}

func (m *Map) made() bool { return m != nil && m.self == m }
