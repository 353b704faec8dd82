package disasm

import "strings"

const (
	column   = 16 // at which the Text of a line begins
	numerals = "0123456789ABCDEF"
)

// Text: F20.1.
func Text(l []Line) string {
	var told strings.Builder
	for _, line := range l {
		ahead := fourDigits(line.At) + "  " + inDigits(line.Bytes, "", " ")
		told.WriteString(ahead)
		told.WriteString(strings.Repeat(" ", max(1, column-len(ahead))))
		told.WriteString(line.Text)
		told.WriteString("\n")
	}
	return told.String()
}

// Label: F20.3.
func Label(place int) string { return "L" + fourDigits(place) }

// asBytes: how a source tells bytes that are no instruction.
func asBytes(list []byte) string { return ".byte " + inDigits(list, "$", ",") }

func inDigits(list []byte, ahead, between string) string {
	told := make([]string, len(list))
	for i, b := range list {
		told[i] = ahead + twoDigits(b)
	}
	return strings.Join(told, between)
}

func twoDigits(b byte) string {
	return numerals[b>>4:b>>4+1] + numerals[b&15:b&15+1]
}

// fourDigits: of a place no more than its lowest 16 bits are told.
func fourDigits(place int) string { return twoDigits(byte(place>>8)) + twoDigits(byte(place)) }
