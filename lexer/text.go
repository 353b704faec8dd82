package lexer

import "strings"

const (
	numerals    = "0123456789abcdef"
	replacement = '\uFFFD' // what a range over a string tells of a byte that belongs to no character
)

// Fold: P1504. Byte by byte, so that what is no right UTF-8 stays as it is.
func Fold(s string) string {
	folded := []byte(s)
	for i, b := range folded {
		if 'a' <= b && b <= 'z' {
			folded[i] = b - 'a' + 'A'
		}
	}
	return string(folded)
}

// Quote: P1504.
func Quote(s string) string {
	var b strings.Builder
	b.WriteByte('"')
	for at, c := range s {
		switch {
		case isBroken(s, at, c), isBarred(c):
			b.WriteString(`\x`)
			b.WriteByte(numerals[s[at]>>4])
			b.WriteByte(numerals[s[at]&15])
		case c == '"', c == '\\':
			b.WriteByte('\\')
			b.WriteByte(s[at])
		default:
			b.WriteRune(c)
		}
	}
	b.WriteByte('"')
	return b.String()
}

// Broken: P1504.
func Broken(s string) int {
	for at, c := range s {
		if isBroken(s, at, c) {
			return at
		}
	}
	return -1
}

// isBroken: does the byte at a place, of which a range over s tells c, belong to no character? The replacement may also stand there itself.
func isBroken(s string, at int, c rune) bool {
	return c == replacement && !strings.HasPrefix(s[at:], string(replacement))
}

// isBarred: a Text has none of these but by an escape.
func isBarred(c rune) bool { return c < ' ' || c == 0x7f }

// meant: the bytes that items mean.
func meant(items string) string {
	var b strings.Builder
	for len(items) > 0 {
		switch {
		case items[0] != '\\':
			b.WriteByte(items[0])
			items = items[1:]
		case items[1] == 'x':
			b.WriteByte(worthOf(items[2])<<4 | worthOf(items[3]))
			items = items[4:]
		default:
			b.WriteByte(escaped(items[1]))
			items = items[2:]
		}
	}
	return b.String()
}

// escaped: the byte that a `\` with b behind it means.
func escaped(b byte) byte {
	switch b {
	case 'n':
		return '\n'
	case 'r':
		return '\r'
	case 't':
		return '\t'
	case '0':
		return 0
	}
	return b
}

// worthOf: of a hexadecimal digit.
func worthOf(digit byte) byte {
	switch {
	case digit >= 'a':
		return digit - 'a' + 10
	case digit >= 'A':
		return digit - 'A' + 10
	}
	return digit - '0'
}
