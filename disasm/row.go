package disasm

import (
	"orrery/modes"
	"orrery/opcode"
)

// nowhere: the target of a line that has none.
const nowhere = -1

// row: a line, and what its instruction is; the mnemonic of a bare byte is empty.
type row struct {
	Line
	mnemonic      string
	mode, operand int
}

func (r row) isInstruction() bool { return r.mnemonic != "" }

func (r row) behind() int { return r.At + len(r.Bytes) }

// goesOn: to the place behind it?
func (r row) goesOn() bool {
	switch r.mnemonic {
	case "JMP", "RTS", "RTI", "BRK":
		return false
	}
	return true
}

// wouldNarrow: would the assembler choose a mode with one byte for its text?
func (r row) wouldNarrow() bool {
	mode, there := modes.Narrow(r.mode)
	if !there || r.operand > 255 {
		return false
	}
	_, has := opcode.Code(r.mnemonic, mode)
	return has
}

func textOf(mnemonic string, mode, operand int) string {
	if mode == modes.Imp {
		return mnemonic
	}
	told, _ := modes.Show(mode, operand)
	return mnemonic + " " + told
}

func targetOf(mnemonic string, mode, operand int) int {
	switch {
	case mode == modes.Rel:
		return operand
	case mode == modes.Abs && (mnemonic == "JMP" || mnemonic == "JSR"):
		return operand
	}
	return nowhere
}
