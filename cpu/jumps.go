package cpu

import "orrery/api"

func jump(w *work) { w.regs.PC = uint16(w.place) }

// call: the place that comeBack asks for is one less than the one behind it.
func call(w *work) {
	w.pushWord(w.regs.PC - 1)
	jump(w)
}

func comeBack(w *work) { w.regs.PC = w.pullWord() + 1 }

func endInterrupt(w *work) {
	pullP(w)
	w.regs.PC = w.pullWord()
}

// breakOff: FlagB tells it from an interrupt, and the byte behind the opcode is left out.
func breakOff(w *work) {
	w.leave(w.regs.PC+1, w.regs.P|api.FlagB, irqVector)
}

// branch: if the flag is so. PC is behind the instruction yet.
func branch(flag byte, set bool) doing {
	return func(w *work) {
		if (w.regs.P&flag != 0) != set {
			return
		}
		w.cycles++
		if page(w.place) != page(int(w.regs.PC)) {
			w.cycles++
		}
		jump(w)
	}
}
