package disasm

import (
	"iter"
	"slices"
	"strings"

	"orrery/api"
)

// part: a merged segment, and the instructions in it that are come to.
type part struct {
	stretch
	reached map[int]row
}

// places: a set of them.
type places map[int]struct{}

func (p places) add(place int) { p[place] = struct{}{} }

func (p places) has(place int) bool {
	_, there := p[place]
	return there
}

// Source: F20.3.
func Source(l []api.Segment, entries []int) (string, api.Errno) {
	merged, e := merge(l)
	if e != api.OK {
		return "", e
	}
	if !arePlaces(entries) {
		return "", api.ErrArg
	}
	parts := partsOf(merged, entries)
	labels := labelsOf(parts)
	if len(labels) > api.MaxLabels {
		return "", api.ErrBig
	}
	return bounded(tell(parts, labels))
}

func arePlaces(entries []int) bool {
	for _, entry := range entries {
		if entry < 0 || entry >= api.MaxMemory {
			return false
		}
	}
	return true
}

func partsOf(merged []stretch, entries []int) []part {
	rising := slices.Sorted(slices.Values(entries)) // there may be very many of both, so those of a segment are looked up
	var list []part
	for _, s := range merged {
		from, _ := slices.BinarySearch(rising, s.At)
		to, _ := slices.BinarySearch(rising, s.end())
		list = append(list, part{s, s.follow(rising[from:to])})
	}
	return list
}

// rows: those that a source tells. What is come to in the midst of another instruction is passed over.
func (p part) rows() iter.Seq[row] {
	return p.inTurn(func(place int) row {
		if r, there := p.reached[place]; there {
			return r
		}
		return p.bareAt(place)
	})
}

func instructions(parts []part) iter.Seq[row] {
	return func(yield func(row) bool) {
		for _, p := range parts {
			for r := range p.rows() {
				if r.isInstruction() && !yield(r) {
					return
				}
			}
		}
	}
}

// labelsOf: the places that have a label.
func labelsOf(parts []part) places {
	begun, labels := places{}, places{}
	for r := range instructions(parts) {
		begun.add(r.At)
	}
	for r := range instructions(parts) {
		if begun.has(r.Target) {
			labels.add(r.Target)
		}
	}
	return labels
}

func tell(parts []part, labels places) string {
	lineOf := teller(labels)
	var told strings.Builder
	for _, p := range parts {
		told.WriteString("* = $" + fourDigits(p.At) + "\n")
		for r := range p.rows() {
			told.WriteString(lineOf(r) + "\n")
		}
	}
	return told.String()
}

// teller: how a row is told where these places have labels.
func teller(labels places) func(row) string {
	ahead := func(place int) string {
		if labels.has(place) {
			return Label(place) + ": "
		}
		return "  "
	}
	body := func(r row) string {
		switch {
		case labels.has(r.Target):
			return r.mnemonic + " " + Label(r.Target)
		case r.wouldNarrow():
			return asBytes(r.Bytes)
		}
		return r.Text
	}
	return func(r row) string { return ahead(r.At) + body(r) }
}

// bounded: the assembler takes no greater text.
func bounded(text string) (string, api.Errno) {
	if len(text) > api.MaxText {
		return "", api.ErrBig
	}
	return text, api.OK
}
