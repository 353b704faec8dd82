package opcode

import "orrery/modes"

func baseOf(in instruction) int {
	class := classOf(in.mnemonic)
	switch class {
	case Reads, Writes, Changes:
		return toOperand(in.mode) + moreThanRead(class, in.mode)
	case Branches:
		return 2
	}
	return ofOthers(in)
}

// toOperand: the cycles until an operand has been read.
func toOperand(mode int) int {
	switch mode {
	case modes.Zp:
		return 3
	case modes.Zpx, modes.Zpy, modes.Abs, modes.Abx, modes.Aby:
		return 4
	case modes.Iny:
		return 5
	case modes.Inx:
		return 6
	}
	return 2
}

// moreThanRead: what an instruction that writes takes beyond one that reads.
func moreThanRead(class, mode int) int {
	more := 0
	switch class {
	case Changes:
		if mode == modes.Acc {
			return 0
		}
		more += 2
		fallthrough // and it waits for the page as every write does
	case Writes:
		if mayCross(mode) {
			more++
		}
	}
	return more
}

// mayCross: a page. Reads wait only where one is crossed, writes always.
func mayCross(mode int) bool {
	return mode == modes.Abx || mode == modes.Aby || mode == modes.Iny
}

func ofOthers(in instruction) int {
	switch in.mnemonic {
	case brk:
		return 7
	case jsr, rti, rts:
		return 6
	case pla, plp:
		return 4
	case pha, php:
		return 3
	case jmp:
		if in.mode == modes.Ind {
			return 5
		}
		return 3
	}
	return 2
}

func extraOf(in instruction) int {
	if classOf(in.mnemonic) == Reads && mayCross(in.mode) {
		return 1
	}
	return 0
}
