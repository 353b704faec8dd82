package cpu

import (
	"orrery/api"
	"orrery/mem"
	"orrery/modes"
)

// nothing: what is read where nothing is.
const nothing = 255

// jam: what gives up a step that can not go on.
type jam api.Errno

// errorOf: a jam's. What else panicked (a function that is attached to a port) is none, and goes on.
func errorOf(fault any) api.Errno {
	j, ok := fault.(jam)
	if !ok {
		panic(fault)
	}
	return api.Errno(j)
}

// read: P2506 has each place read once, so that what is attached to ports sees no more.
func read(m *mem.Memory, at int) byte {
	b, e := m.Read(round(at))
	switch e {
	case api.ErrBus:
		return nothing
	case api.ErrParity:
		panic(jam(e))
	}
	return b
}

func round(at int) int { return int(uint16(at)) }

func inZeroPage(at int) int { return int(byte(at)) }

func page(at int) int { return at >> 8 }

// Address: P2503.
func Address(m *mem.Memory, r api.Regs, mode int, b []byte) (at int, crossed bool, e api.Errno) {
	if m == nil {
		return 0, false, api.ErrNil
	}
	if !hasPlace(mode) {
		return 0, false, api.ErrMode
	}
	defer func() {
		if fault := recover(); fault != nil {
			at, crossed, e = 0, false, errorOf(fault)
		}
	}()
	operand, e := modes.Operand(mode, b, int(r.PC))
	if e != api.OK {
		return 0, false, e
	}
	at, crossed = placeOf(m, r, mode, operand)
	return at, crossed, api.OK
}

// hasPlace: whether there is an operand, and it stands in memory.
func hasPlace(mode int) bool { return modes.Length(mode) > 1 && mode != modes.Imm }

// placeOf: of an operand as modes tells it; of a branch that is the place already.
func placeOf(m *mem.Memory, r api.Regs, mode, operand int) (at int, crossed bool) {
	switch mode {
	case modes.Zpx:
		return inZeroPage(operand + int(r.X)), false
	case modes.Zpy:
		return inZeroPage(operand + int(r.Y)), false
	case modes.Abx:
		return indexed(operand, r.X)
	case modes.Aby:
		return indexed(operand, r.Y)
	case modes.Ind:
		return pointer(m, operand), false
	case modes.Inx:
		return pointer(m, inZeroPage(operand+int(r.X))), false
	case modes.Iny:
		return indexed(pointer(m, operand), r.Y)
	}
	return operand, false
}

func indexed(at int, index byte) (int, bool) {
	to := round(at + int(index))
	return to, page(to) != page(at)
}

// pointer: the two bytes at a place, the second of which never leaves the page of the first.
func pointer(m *mem.Memory, at int) int {
	low := read(m, at)
	high := read(m, page(at)<<8|inZeroPage(at+1))
	return int(word(low, high))
}

func word(low, high byte) uint16 { return uint16(high)<<8 | uint16(low) }
