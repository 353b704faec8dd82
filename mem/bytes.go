package mem

import (
	"orrery/api"
	"orrery/ecc"
)

const cellWidth = 8 // bits of data

// Read: P2303.
func (m *Memory) Read(at int) (byte, api.Errno) {
	r, e := m.regionOf(at)
	if e != api.OK {
		return 0, e
	}
	if r.Kind == Port {
		return m.ports[r].read(at - r.From), api.OK
	}
	return m.readCell(at)
}

// readCell: the byte of a cell, which is laid anew, and counted, if a bit of it was turned.
func (m *Memory) readCell(at int) (byte, api.Errno) {
	data, kind, _, e := ecc.Decode(cellWidth, m.cells[at])
	if e != api.OK {
		m.lost++
		return 0, api.ErrParity
	}
	if kind != ecc.Fine {
		m.mended++
		m.cells[at] = cellOf(byte(data))
	}
	return byte(data), api.OK
}

// cellOf: there is such a word of every byte.
func cellOf(b byte) ecc.Word {
	w, _ := ecc.Encode(cellWidth, uint64(b))
	return w
}

// Write: P2303.
func (m *Memory) Write(at int, b byte) api.Errno {
	r, e := m.regionOf(at)
	if e != api.OK {
		return e
	}
	switch r.Kind {
	case Rom:
		return api.ErrRom
	case Port:
		m.ports[r].write(at-r.From, b)
	default:
		m.cells[at] = cellOf(b)
	}
	return api.OK
}

// Peek: P2304.
func (m *Memory) Peek(at int) (byte, api.Errno) {
	w, e := m.Cell(at)
	if e != api.OK {
		return 0, e
	}
	data, _, _, e := ecc.Decode(cellWidth, w)
	if e != api.OK {
		return 0, api.ErrParity
	}
	return byte(data), api.OK
}

// Load: P2304. All segments are asked ahead of the first byte that is laid.
func (m *Memory) Load(l []api.Segment) api.Errno {
	if m == nil {
		return api.ErrNil
	}
	for _, s := range l {
		if s.At < 0 || s.At > api.MaxMemory-len(s.Bytes) {
			return api.ErrArg
		}
	}
	for _, s := range l {
		if !m.hasCells(s.At, s.At+len(s.Bytes)) {
			return api.ErrBus
		}
	}
	for _, s := range l {
		for i, b := range s.Bytes {
			m.cells[s.At+i] = cellOf(b)
		}
	}
	return api.OK
}

// hasCells: are all places from one up to another in RAM or ROM? It goes from region to region.
func (m *Memory) hasCells(from, to int) bool {
	for at := from; at < to; {
		r, _ := m.regionOf(at)
		if !r.hasCells() {
			return false
		}
		at = r.To
	}
	return true
}
