package hexfile

import "strings"

const numerals = "0123456789ABCDEF"

// bytesOf: two digits a byte; false, if something else is there, or half a byte.
func bytesOf(digits string) ([]byte, bool) {
	var list []byte
	var high byte
	for i, c := range digits {
		value, there := digitOf(c)
		if !there {
			return nil, false
		}
		if i%2 == 0 {
			high = value << 4
		} else {
			list = append(list, high|value)
		}
	}
	return list, len(digits)%2 == 0
}

func digitOf(c rune) (byte, bool) {
	switch {
	case c >= '0' && c <= '9':
		return byte(c - '0'), true
	case c >= 'A' && c <= 'F':
		return byte(c-'A') + 10, true
	case c >= 'a' && c <= 'f':
		return byte(c-'a') + 10, true
	}
	return 0, false
}

func inDigits(list []byte) string {
	var told strings.Builder
	for _, b := range list {
		told.WriteString(oneDigit(b >> 4))
		told.WriteString(oneDigit(b & 15))
	}
	return told.String()
}

func oneDigit(value byte) string { return numerals[value : value+1] }

// counted: what each record begins with, its count and its place.
func counted(count, at int) []byte { return append([]byte{byte(count)}, twoBytes(at)...) }

// twoBytes: the lowest sixteen bits.
func twoBytes(n int) []byte { return []byte{byte(n >> 8), byte(n)} }

// numberOf: two bytes.
func numberOf(two []byte) int { return int(two[0])<<8 | int(two[1]) }

func total(list []byte) int {
	sum := 0
	for _, b := range list {
		sum += int(b)
	}
	return sum
}
