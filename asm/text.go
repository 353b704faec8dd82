package asm

import "strings"

const (
	inRow    = 8  // the bytes that one line of a listing has room for
	column   = 30 // at which a source's line begins there
	numerals = "0123456789ABCDEF"
)

// Text: P1906.
func Text(source string, l Listing) string {
	lines := strings.Split(source, "\n")
	rows := inStep(l.Rows, len(lines))
	var told []string
	for number, line := range lines {
		if len(rows) == 0 || rows[0].Line != number {
			told = append(told, padded("")+line)
			continue
		}
		ahead := columnsOf(rows[0])
		told = append(told, ahead[0]+line)
		told = append(told, ahead[1:]...)
		rows = rows[1:]
	}
	return strings.Join(told, "\n")
}

// inStep: the rows that are told with that many lines, each of a line behind that of the one ahead of it.
func inStep(rows []Row, lines int) []Row {
	var list []Row
	last := -1
	for _, r := range rows {
		if last < r.Line && r.Line < lines {
			list = append(list, r)
			last = r.Line
		}
	}
	return list
}

// columnsOf: what stands ahead of the source's line, and what follows it, if the bytes need more room.
func columnsOf(r Row) []string {
	place, rest := uint16(r.At), r.Bytes // of the place no more than 16 bits are told, so it may go round
	var list []string
	for len(rest) > inRow {
		list = append(list, columns(place, rest[:inRow]))
		place, rest = place+inRow, rest[inRow:]
	}
	return append(list, columns(place, rest))
}

func columns(place uint16, list []byte) string {
	told := inDigits(byte(place>>8)) + inDigits(byte(place)) + "  "
	for _, b := range list {
		told += inDigits(b) + " "
	}
	return padded(told)
}

func inDigits(b byte) string {
	return numerals[b>>4:b>>4+1] + numerals[b&15:b&15+1]
}

func padded(told string) string { return told + strings.Repeat(" ", column-len(told)) }
