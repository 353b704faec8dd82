package disasm

import (
	"iter"
	"slices"

	"orrery/api"
	"orrery/modes"
	"orrery/opcode"
)

// stretch: bytes at a place.
type stretch api.Segment

func (s stretch) fits() bool { return s.At >= 0 && s.At <= api.MaxMemory-len(s.Bytes) }

func (s stretch) end() int { return s.At + len(s.Bytes) }

func (s stretch) has(place int) bool { return s.At <= place && place < s.end() }

func (s stretch) hasAll(places []int) bool {
	for _, place := range places {
		if !s.has(place) {
			return false
		}
	}
	return true
}

// instructionAt: the one that begins there; false, if it is none, or not whole.
func (s stretch) instructionAt(place int) (row, bool) {
	left := s.Bytes[place-s.At:]
	mnemonic, mode, known := opcode.Of(left[0])
	size := modes.Length(mode)
	if !known || size > len(left) {
		return row{}, false
	}
	code := slices.Clone(left[:size])
	operand, _ := modes.Operand(mode, code[1:], place)
	line := Line{place, code, textOf(mnemonic, mode, operand), targetOf(mnemonic, mode, operand)}
	return row{line, mnemonic, mode, operand}, true
}

func (s stretch) bareAt(place int) row {
	list := []byte{s.Bytes[place-s.At]}
	return row{Line: Line{place, list, asBytes(list), nowhere}}
}

func (s stretch) rowAt(place int) row {
	if r, whole := s.instructionAt(place); whole {
		return r
	}
	return s.bareAt(place)
}

// inTurn: the rows from the beginning to the end, one behind the other; at tells which one begins at a place.
func (s stretch) inTurn(at func(place int) row) iter.Seq[row] {
	return func(yield func(row) bool) {
		for place := s.At; s.has(place); {
			r := at(place)
			if !yield(r) {
				return
			}
			place = r.behind()
		}
	}
}

// follow: the instructions that are come to from the entries, by their places.
func (s stretch) follow(entries []int) map[int]row {
	reached := map[int]row{}
	waiting := slices.Clone(entries)
waits:
	for len(waiting) > 0 {
		last := len(waiting) - 1
		place := waiting[last]
		waiting = waiting[:last]
		for s.has(place) {
			if _, there := reached[place]; there {
				continue waits
			}
			r, whole := s.instructionAt(place)
			if !whole {
				continue waits
			}
			reached[place] = r
			if r.Target != nowhere {
				waiting = append(waiting, r.Target)
			}
			if !r.goesOn() {
				continue waits
			}
			place = r.behind()
		}
	}
	return reached
}
