package mem

import "orrery/api"

// open: what is read where nothing is attached.
const open = 255

// port: what is attached to a region; what is nil there is not asked.
type port struct {
	get func(reg int) byte
	put func(reg int, b byte)
}

// Attach: P2302.
func (m *Memory) Attach(from int, get func(reg int) byte, put func(reg int, b byte)) api.Errno {
	r, e := m.regionOf(from)
	if e == api.ErrNil {
		return e
	}
	if r.Kind != Port || r.From != from {
		return api.ErrArg
	}
	m.ports[r] = port{get, put}
	return api.OK
}

func (p port) read(reg int) byte {
	if p.get == nil {
		return open
	}
	return p.get(reg)
}

func (p port) write(reg int, b byte) {
	if p.put != nil {
		p.put(reg, b)
	}
}
