package modes

import "orrery/api"

const (
	mostByte = 0xff
	mostWord = 0xffff
	numerals = "0123456789ABCDEF"
)

// Bytes: P1704.
func Bytes(mode, operand, pc int) ([]byte, api.Errno) {
	if e := checkPlace(mode, pc); e != api.OK {
		return nil, e
	}
	if e := checkOperand(mode, operand); e != api.OK {
		return nil, e
	}
	if mode == Rel {
		return branch(operand, pc)
	}
	return inBytes(operand, Length(mode)-1), api.OK
}

func checkPlace(mode, pc int) api.Errno {
	switch {
	case !isMode(mode):
		return api.ErrMode
	case pc < 0 || pc > mostWord:
		return api.ErrArg
	}
	return api.OK
}

func checkOperand(mode, operand int) api.Errno {
	if hasOperand(mode) && (operand < 0 || operand > most(mode)) {
		return api.ErrRange
	}
	return api.OK
}

func hasOperand(mode int) bool { return Length(mode) > 1 }

// most: the greatest operand of a mode that has one.
func most(mode int) int {
	if mode == Rel || Length(mode) == 3 { // a branch names its place, though it has but one byte for the way there
		return mostWord
	}
	return mostByte
}

// branch: the byte by which the instruction at pc goes to a place, round the end of memory where that is nearer.
func branch(place, pc int) ([]byte, api.Errno) {
	way := int16(uint16(place) - afterBranch(pc))
	if way != int16(int8(way)) {
		return nil, api.ErrBranch
	}
	return []byte{byte(way)}, api.OK
}

func afterBranch(pc int) uint16 { return uint16(pc) + 2 }

// inBytes: the lowest bytes of an operand, the lowest first.
func inBytes(operand, n int) []byte {
	list := make([]byte, n)
	for i := range list {
		list[i] = byte(operand >> (8 * i))
	}
	return list
}

// Operand: P1704.
func Operand(mode int, b []byte, pc int) (int, api.Errno) {
	if e := checkPlace(mode, pc); e != api.OK {
		return 0, e
	}
	if len(b) != Length(mode)-1 {
		return 0, api.ErrArg
	}
	if mode == Rel {
		return int(afterBranch(pc) + uint16(int8(b[0]))), api.OK
	}
	operand := 0
	for i, v := range b {
		operand |= int(v) << (8 * i)
	}
	return operand, api.OK
}

// Show: P1705.
func Show(mode, operand int) (string, api.Errno) {
	if !isMode(mode) {
		return "", api.ErrMode
	}
	if e := checkOperand(mode, operand); e != api.OK {
		return "", e
	}
	return dressed(formOf(mode), "$"+inDigits(operand, most(mode))), api.OK
}

// dressed: a form of that kind whose expression is told so.
func dressed(kind int, told string) string {
	switch kind {
	case None:
		return ""
	case OfA:
		return "A"
	case Sharp:
		return "#" + told
	case WithX:
		return told + ",X"
	case WithY:
		return told + ",Y"
	case Paren:
		return "(" + told + ")"
	case ParenX:
		return "(" + told + ",X)"
	case ParenY:
		return "(" + told + "),Y"
	}
	return told
}

// inDigits: as many digits as the greatest one has.
func inDigits(operand, greatest int) string {
	told := ""
	for ; greatest > 0; greatest >>= 4 {
		told = numerals[operand&15:operand&15+1] + told
		operand >>= 4
	}
	return told
}
