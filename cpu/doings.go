package cpu

import (
	"orrery/alu"
	"orrery/api"
)

// doing: what an instruction does, once its operand's place is known.
type doing func(w *work)

// register: one of those that instructions name.
type register func(w *work) *byte

func ofA(w *work) *byte { return &w.regs.A }
func ofX(w *work) *byte { return &w.regs.X }
func ofY(w *work) *byte { return &w.regs.Y }
func ofS(w *work) *byte { return &w.regs.S }

// doings: P2504.
func doings() map[string]doing {
	return map[string]doing{
		"LDA": load(ofA), "LDX": load(ofX), "LDY": load(ofY),
		"STA": store(ofA), "STX": store(ofX), "STY": store(ofY),
		"TAX": transfer(ofA, ofX), "TXA": transfer(ofX, ofA),
		"TAY": transfer(ofA, ofY), "TYA": transfer(ofY, ofA),
		"TSX": transfer(ofS, ofX), "TXS": stackFromX,
		"ADC": join(alu.Add), "SBC": join(alu.Sub),
		"AND": join(alu.And), "ORA": join(alu.Or), "EOR": join(alu.Eor),
		"CMP": compare(ofA, alu.Compare), "CPX": compare(ofX, alu.Compare),
		"CPY": compare(ofY, alu.Compare), "BIT": compare(ofA, alu.Bit),
		"ASL": change(alu.Asl), "LSR": change(alu.Lsr),
		"ROL": change(alu.Rol), "ROR": change(alu.Ror),
		"INC": change(alu.Inc), "DEC": change(alu.Dec),
		"INX": count(ofX, alu.Inc), "INY": count(ofY, alu.Inc),
		"DEX": count(ofX, alu.Dec), "DEY": count(ofY, alu.Dec),
		"PHA": pushA, "PHP": pushP, "PLA": pullA, "PLP": pullP,
		"JMP": jump, "JSR": call, "RTS": comeBack, "RTI": endInterrupt, "BRK": breakOff,
		"BPL": branch(api.FlagN, false), "BMI": branch(api.FlagN, true),
		"BVC": branch(api.FlagV, false), "BVS": branch(api.FlagV, true),
		"BCC": branch(api.FlagC, false), "BCS": branch(api.FlagC, true),
		"BNE": branch(api.FlagZ, false), "BEQ": branch(api.FlagZ, true),
		"CLC": clearFlag(api.FlagC), "SEC": setFlag(api.FlagC),
		"CLI": clearFlag(api.FlagI), "SEI": setFlag(api.FlagI),
		"CLD": clearFlag(api.FlagD), "SED": setFlag(api.FlagD),
		"CLV": clearFlag(api.FlagV), "NOP": func(*work) {},
	}
}

func load(r register) doing {
	return func(w *work) { w.keep(r, w.value()) }
}

func store(r register) doing {
	return func(w *work) { w.write(w.place, *r(w)) }
}

func transfer(from, to register) doing {
	return func(w *work) { w.keep(to, *from(w)) }
}

// stackFromX: the one transfer that tells no flags.
func stackFromX(w *work) { w.regs.S = w.regs.X }

// join: A and M become A.
func join(f func(a, b, p byte) (byte, byte)) doing {
	return func(w *work) { w.regs.A, w.regs.P = f(w.regs.A, w.value(), w.regs.P) }
}

// compare: a register and M tell flags alone.
func compare(r register, f func(a, b, p byte) byte) doing {
	return func(w *work) { w.regs.P = f(*r(w), w.value(), w.regs.P) }
}

func change(f func(v, p byte) (byte, byte)) doing {
	return func(w *work) {
		v, p := f(w.value(), w.regs.P)
		w.regs.P = p
		w.change(v)
	}
}

func count(r register, f func(v, p byte) (byte, byte)) doing {
	return func(w *work) { *r(w), w.regs.P = f(*r(w), w.regs.P) }
}

func clearFlag(flag byte) doing {
	return func(w *work) { w.regs.P &^= flag }
}

func setFlag(flag byte) doing {
	return func(w *work) { w.regs.P |= flag }
}

// keep: the register has a value, whose flags are told.
func (w *work) keep(r register, v byte) {
	*r(w) = v
	w.regs.P = alu.Flags(v, w.regs.P)
}
