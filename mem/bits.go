package mem

import (
	"orrery/api"
	"orrery/ecc"
)

// Turn: P2305. The bit is asked ahead of what the place is; there is a word for every place, so that ecc can ask it.
func (m *Memory) Turn(at, bit int) api.Errno {
	if m == nil {
		return api.ErrNil
	}
	if !isPlace(at) {
		return api.ErrArg
	}
	w, e := ecc.Turn(cellWidth, m.cells[at], bit)
	if e != api.OK {
		return e
	}
	return m.Lay(at, w)
}

// Scrub: P2305.
func (m *Memory) Scrub() (int, int) {
	if m == nil {
		return 0, 0
	}
	mended, lost := m.mended, m.lost
	for _, r := range m.regions {
		if !r.hasCells() {
			continue
		}
		for at := r.From; at < r.To; at++ {
			m.readCell(at)
		}
	}
	return m.mended - mended, m.lost - lost
}

// Counts: P2305.
func (m *Memory) Counts() (int, int) {
	if m == nil {
		return 0, 0
	}
	return m.mended, m.lost
}

// Cell: P2306.
func (m *Memory) Cell(at int) (ecc.Word, api.Errno) {
	r, e := m.regionOf(at)
	if e != api.OK {
		return ecc.Word{}, e
	}
	if !r.hasCells() {
		return ecc.Word{}, api.ErrBus
	}
	return m.cells[at], api.OK
}

// Lay: P2306.
func (m *Memory) Lay(at int, w ecc.Word) api.Errno {
	_, e := m.Cell(at)
	if e == api.ErrNil {
		return e
	}
	if !ecc.Valid(cellWidth, w) {
		return api.ErrArg
	}
	if e != api.OK {
		return e
	}
	m.cells[at] = w
	return api.OK
}
