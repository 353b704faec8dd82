package automata

import "strings"

// What a word of the table tells of its byte.
const (
	isDigit uint32 = 1 << iota
	isWord
	isBlank
	isMark // it must be escaped to be an atom itself
)

// The bytes that these kinds have.
const (
	digits  = "0123456789"
	letters = "ABCDEFGHIJKLMNOPQRSTUVWXYZabcdefghijklmnopqrstuvwxyz"
	blanks  = " \t\n\r"
	marks   = `()[].*+?|\`
)

// Words: F12.1.
func Words() []uint32 {
	words := make([]uint32, byteCount)
	for b := range words {
		words[b] = kindOf(byte(b))
	}
	return words
}

// kindOf: the word of a byte. Patterns are read by it.
func kindOf(b byte) uint32 {
	switch b {
	case ' ', '\t', '\n', '\r':
		return isBlank
	case '(', ')', '[', ']', '.', '*', '+', '?', '|', '\\':
		return isMark
	case '_':
		return isWord
	}
	if b >= '0' && b <= '9' {
		return isDigit | isWord
	}
	if b >= 'A' && b <= 'Z' || b >= 'a' && b <= 'z' {
		return isWord
	}
	return 0
}

// Rule: F12.1, by the texts alone.
func Rule() []uint32 {
	words := make([]uint32, byteCount)
	for b := range words {
		for bit, those := range [...]string{digits, letters + digits + "_", blanks, marks} {
			if strings.IndexByte(those, byte(b)) >= 0 {
				words[b] += 1 << bit
			}
		}
	}
	return words
}
