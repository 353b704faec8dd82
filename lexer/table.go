package lexer

const (
	tableWords = 256 // one for each byte
	tableKinds = 128 // no byte above has a kind
)

// What a word of the table tells of its byte.
const (
	isBlank  uint8 = 1 << iota
	isLetter       // or one of `_` and `.`, which can stand wherever a letter can
	isDecimal
	isHex
	isOctal
	isBinary
	isMark  // by itself
	isPlain // it may stand in a Char as it is
)

// kinds: of the bytes below 128, as they stand since the start. Words hands them out; lines are gone through by kindOf.
var kinds = makeKinds()

func makeKinds() [tableKinds]uint8 {
	var made [tableKinds]uint8
	for b := range made {
		made[b] = kindOf(rune(b))
	}
	return made
}

// kindOf: of a character, by the rule. What is no byte below 128 has none.
func kindOf(c rune) uint8 {
	if c < ' ' || c > '~' || c == '\'' || c == '\\' {
		return useOf(c)
	}
	return useOf(c) | isPlain
}

// useOf: what a character is good for outside of quotation marks.
func useOf(c rune) uint8 {
	switch {
	case c == ' ', c == '\t', c == '\r':
		return isBlank
	case c == '0', c == '1':
		return isDecimal | isHex | isOctal | isBinary
	case '2' <= c && c <= '7':
		return isDecimal | isHex | isOctal
	case c == '8', c == '9':
		return isDecimal | isHex
	case 'A' <= c && c <= 'F', 'a' <= c && c <= 'f':
		return isLetter | isHex
	case 'G' <= c && c <= 'Z', 'g' <= c && c <= 'z', c == '_', c == '.':
		return isLetter
	}
	switch c {
	case ',', '#', '(', ')', ':', '=', '+', '-', '*', '/', '&', '|', '^', '~', '<', '>', '!':
		return isMark
	}
	return 0
}

// Rule: P1505.
func Rule() []uint32 {
	words := make([]uint32, tableWords)
	for b := range words {
		words[b] = uint32(kindOf(rune(b)))
	}
	return words
}

// Words: P1505, as the table stands since the start.
func Words() []uint32 {
	words := make([]uint32, tableWords)
	for b := range tableKinds {
		words[b] = uint32(kinds[b])
	}
	return words
}
