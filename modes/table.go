package modes

// Where the parts of a word of the table begin.
const (
	formBit   = 4
	narrowBit = 8
	wideBit   = 16
)

// table: the words as they stand since the start. Words hands them out; the other calls go by the rule.
var table = makeTable()

func makeTable() [count]uint32 {
	var made [count]uint32
	for mode := range made {
		made[mode] = wordOf(mode)
	}
	return made
}

// wordOf: of a mode, by the rule.
func wordOf(mode int) uint32 {
	return uint32(Length(mode) | formOf(mode)<<formBit | andOne(Narrow(mode))<<narrowBit | andOne(Wide(mode))<<wideBit)
}

// andOne: a mode counted from 1 on, so that 0 is none.
func andOne(mode int, ok bool) int {
	if !ok {
		return 0
	}
	return mode + 1
}

// Rule: P1706.
func Rule() []uint32 {
	words := make([]uint32, count)
	for mode := range words {
		words[mode] = wordOf(mode)
	}
	return words
}

// Words: P1706, as the table stands since the start.
func Words() []uint32 {
	words := make([]uint32, count)
	for mode, word := range table {
		words[mode] = word
	}
	return words
}
