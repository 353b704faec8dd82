package cpu

import "orrery/api"

const stack = 256

func (w *work) push(b byte) {
	w.write(stack+int(w.regs.S), b)
	w.regs.S--
}

func (w *work) pull() byte {
	w.regs.S++
	return w.read(stack + int(w.regs.S))
}

func (w *work) pushWord(at uint16) {
	w.push(byte(at >> 8))
	w.push(byte(at))
}

func (w *work) pullWord() uint16 {
	low := w.pull()
	return word(low, w.pull())
}

func pushA(w *work) { w.push(w.regs.A) }

func pushP(w *work) { w.push(w.regs.P | api.FlagB) }

func pullA(w *work) { w.keep(ofA, w.pull()) }

func pullP(w *work) { w.regs.P = told(w.pull()) }
