package cpu

import (
	"orrery/api"
	"orrery/mem"
	"orrery/modes"
	"orrery/opcode"
)

// work: a step that is being done.
type work struct {
	memory       *mem.Memory
	kind         int
	before, regs api.Regs // PC is behind the instruction, once that is fetched
	mode, place  int      // of the operand, where it has one
	bytes        []byte
	cycles       int
}

func (w *work) read(at int) byte { return read(w.memory, at) }

// write: a place that takes nothing is as good as any other.
func (w *work) write(at int, b byte) { w.memory.Write(at, b) }

// vector: the place that stands at a place and behind it.
func (w *work) vector(at int) uint16 {
	low := w.read(at)
	return word(low, w.read(at+1))
}

// leave: what BRK and the interrupts have in common.
func (w *work) leave(back uint16, p byte, vector int) {
	w.pushWord(back)
	w.push(p)
	w.regs.P |= api.FlagI
	w.regs.PC = w.vector(vector)
}

func (w *work) interrupt(kind, vector int) {
	w.kind = kind
	w.leave(w.regs.PC, w.regs.P, vector)
	w.cycles = interruptCycles
}

func (w *work) instruction(does map[string]doing) {
	op := w.fetch()
	mnemonic, mode, ok := opcode.Of(op)
	if !ok {
		panic(jam(api.ErrJam))
	}
	w.mode = mode
	for range modes.Length(mode) - 1 {
		w.fetch()
	}
	base, extra, _ := opcode.Cycles(op)
	w.cycles = base
	if w.locate() {
		w.cycles += extra
	}
	does[mnemonic](w)
}

// fetch: the next byte of the instruction.
func (w *work) fetch() byte {
	b := w.read(int(w.regs.PC))
	w.regs.PC++
	w.bytes = append(w.bytes, b)
	return b
}

// locate: the operand's place, where it has one; was a page crossed? The registers ahead of the step still have the opcode's place.
func (w *work) locate() bool {
	if !hasPlace(w.mode) {
		return false
	}
	place, crossed, e := Address(w.memory, w.before, w.mode, w.bytes[1:])
	if e != api.OK {
		panic(jam(e))
	}
	w.place = place
	return crossed
}

// value: M.
func (w *work) value() byte {
	switch w.mode {
	case modes.Imm:
		return w.bytes[1]
	case modes.Acc:
		return w.regs.A
	}
	return w.read(w.place)
}

// change: M is another one.
func (w *work) change(v byte) {
	if w.mode == modes.Acc {
		w.regs.A = v
		return
	}
	w.write(w.place, v)
}
