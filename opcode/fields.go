package opcode

import "orrery/modes"

// instruction: a mnemonic with a mode; the zero one is none.
type instruction struct{ mnemonic, mode int }

// row: what a field of three bits chooses from.
type row [8]int

// instructionOf: by the three fields of the opcode.
func instructionOf(op byte) instruction {
	a, b := int(op>>5), int(op>>2&7)
	var in instruction
	switch op & 3 {
	case 0:
		in = withC0(a, b)
	case 1:
		in = withC1(a, b)
	case 2:
		in = withC2(a, b)
	}
	if in.mnemonic == none { // what is none has no mode either
		return instruction{}
	}
	return in
}

// byB: the modes as b tells them where c is 1; the odd ones hold where it is 0 and 2 too.
func byB(b int) int {
	return row{modes.Inx, modes.Zp, modes.Imm, modes.Abs, modes.Iny, modes.Zpx, modes.Aby, modes.Abx}[b]
}

func withC0(a, b int) instruction {
	switch b {
	case 0:
		return instruction{
			row{brk, jsr, rti, rts, none, ldy, cpy, cpx}[a],
			row{modes.Imp, modes.Abs, modes.Imp, modes.Imp, modes.Imp, modes.Imm, modes.Imm, modes.Imm}[a],
		}
	case 2:
		return instruction{row{php, plp, pha, pla, dey, tay, iny, inx}[a], modes.Imp}
	case 4:
		return instruction{row{bpl, bmi, bvc, bvs, bcc, bcs, bne, beq}[a], modes.Rel}
	case 6:
		return instruction{row{clc, sec, cli, sei, tya, clv, cld, sed}[a], modes.Imp}
	case 3:
		switch a {
		case 2:
			return instruction{jmp, modes.Abs}
		case 3:
			return instruction{jmp, modes.Ind}
		}
		fallthrough // beside the jumps the wide ones are the narrow ones' own
	case 1:
		return instruction{row{none, bit, none, none, sty, ldy, cpy, cpx}[a], byB(b)}
	case 5:
		if a == 4 {
			return instruction{sty, byB(b)}
		}
		fallthrough // with an index LDY alone is there narrow and wide
	case 7:
		if a == 5 {
			return instruction{ldy, byB(b)}
		}
	}
	return instruction{}
}

func withC1(a, b int) instruction {
	in := instruction{row{ora, and, eor, adc, sta, lda, cmp, sbc}[a], byB(b)}
	if in == (instruction{sta, modes.Imm}) { // nothing can be stored into a number
		return instruction{}
	}
	return in
}

func withC2(a, b int) instruction {
	mnemonic := row{asl, rol, lsr, ror, stx, ldx, dec, inc}[a]
	switch b {
	case 0:
		if mnemonic == ldx {
			return instruction{ldx, modes.Imm}
		}
	case 2:
		if a < 4 {
			return instruction{mnemonic, modes.Acc}
		}
		return instruction{row{4: txa, tax, dex, nop}[a], modes.Imp}
	case 6:
		return instruction{row{4: txs, tsx}[a], modes.Imp}
	case 7:
		if mnemonic == stx {
			return instruction{}
		}
		fallthrough
	case 5:
		if mnemonic == stx || mnemonic == ldx {
			return instruction{mnemonic, overY(byB(b))}
		}
		fallthrough // whoever does not use X itself goes over it
	case 1, 3:
		return instruction{mnemonic, byB(b)}
	}
	return instruction{}
}

// overY: the mode with Y in place of X.
func overY(mode int) int {
	if mode == modes.Zpx {
		return modes.Zpy
	}
	return modes.Aby
}
