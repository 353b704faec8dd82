package hexfile

import (
	"slices"
	"strings"

	"orrery/api"
)

// Write: P2104.
func Write(f File, width int) (string, api.Errno) {
	if !isFormat(f.Format) {
		return "", api.ErrArg
	}
	by := formats()[f.Format]
	if width < 1 || width > by.most || !by.mayEnter(f.Entry) {
		return "", api.ErrArg
	}
	merged, e := Merge(f.Segments)
	if e != api.OK {
		return "", e
	}
	data := by.cut(merged, width)
	var told strings.Builder
	for _, r := range slices.Concat(by.head(), data, by.tail(len(data), f.Entry)) {
		told.WriteString(by.text(r))
		told.WriteString("\n")
	}
	return told.String(), api.OK
}

func (f format) mayEnter(entry int) bool {
	return entry == nowhere || f.entered && isPlace(entry)
}

// cut: the segments as data records of so many bytes at the most.
func (f format) cut(merged []api.Segment, width int) []record {
	var list []record
	for _, s := range merged {
		for from := 0; from < len(s.Bytes); from += width {
			to := min(from+width, len(s.Bytes))
			list = append(list, record{f.data, s.At + from, s.Bytes[from:to]})
		}
	}
	return list
}
