package disasm_test

import (
	"fmt"
	"math/rand"
	"slices"
	"strings"
	"testing"

	"orrery/api"
	"orrery/disasm"
)

// inBytes: how a source tells bytes.
func inBytes(list []byte) string {
	var told []string
	for _, b := range list {
		told = append(told, fmt.Sprintf("$%02X", b))
	}
	return ".byte " + strings.Join(told, ",")
}

// begun: the instructions of a source by their places, out of each segment's followed ones; a place that is gone beyond is not asked.
func begun(merged segments, entries []int) map[int]line {
	all := map[int]line{}
	for _, s := range merged {
		var inside []int
		for _, entry := range entries {
			if s.At <= entry && entry < s.At+len(s.Bytes) {
				inside = append(inside, entry)
			}
		}
		gone := 0
		for _, l := range byGrowing(s.Bytes, s.At, inside) { // rising, and a bare byte goes beyond nothing
			if l.At >= gone {
				all[l.At], gone = l, l.At+len(l.Bytes)
			}
		}
	}
	return all
}

// bySecondReading: a source by the chapter's words, byte by byte.
func bySecondReading(l segments, entries []int) string {
	merged := mergedByPlaces(l)
	all := begun(merged, entries)
	targets := map[int]bool{}
	for _, one := range all {
		targets[one.Target] = true
	}
	labelled := func(place int) bool { return targets[place] && all[place].Text != "" }
	var told strings.Builder
	for _, s := range merged {
		fmt.Fprintf(&told, "* = $%04X\n", s.At)
		gone := 0
		for i, b := range s.Bytes {
			place := s.At + i
			if place < gone {
				continue
			}
			one, there := all[place]
			text := one.Text
			switch {
			case !there:
				text = inBytes([]byte{b})
			case labelled(one.Target):
				text = fmt.Sprintf("%s L%04X", text[:3], one.Target)
			case len(one.Bytes) == 3 && one.Bytes[2] == 0 && hasNarrow(b):
				text = inBytes(one.Bytes)
			}
			if labelled(place) {
				fmt.Fprintf(&told, "L%04X: %s\n", place, text)
			} else {
				fmt.Fprintf(&told, "  %s\n", text)
			}
			gone = place + len(one.Bytes)
		}
	}
	return told.String()
}

// madeUpProgram: segments that have no place in common, some of them adjacent or empty, in any order, whose jumps meet.
func madeUpProgram(chance *rand.Rand) (segments, []int) {
	var l segments
	var entries []int
	b, place := madeUp(chance, 100)
	for range 1 + chance.Intn(5) {
		size := min(len(b), chance.Intn(60))
		l = append(l, api.Segment{At: place, Bytes: slices.Clone(b[:size])})
		for range chance.Intn(1 + min(size, 4)) {
			entries = append(entries, place+chance.Intn(size))
		}
		place, b = place+size, b[size:]
		if chance.Intn(2) == 0 { // a gap
			gap := min(len(b), chance.Intn(4))
			place, b = place+gap, b[gap:]
		}
	}
	if chance.Intn(3) == 0 {
		entries = append(entries, chance.Intn(65536))
	}
	chance.Shuffle(len(l), func(i, j int) { l[i], l[j] = l[j], l[i] })
	return l, entries
}

// P2003, F20.3: the source is what the chapter says, and the assembler makes the merged segments of it.
func TestTheSourceIsTheProgram(t *testing.T) {
	chance := rand.New(rand.NewSource(2003))
	labels, wide, passed := 0, 0, 0
	for range 600 {
		l, entries := madeUpProgram(chance)
		got, e := disasm.Source(l, entries)
		want := bySecondReading(l, entries)
		if got != want || e != api.OK {
			t.Fatalf("Source(%v, %v): %v\n%snot\n%s", l, entries, e, got, want)
		}
		wantBack(t, l, got)
		labels += strings.Count(got, ":")
		wide += strings.Count(got, ",$")
		for _, s := range mergedByPlaces(l) {
			var inside []int
			for _, entry := range entries {
				if s.At <= entry && entry < s.At+len(s.Bytes) {
					inside = append(inside, entry)
				}
			}
			passed += len(followed(t, s.Bytes, s.At, inside...)) - len(begun(segments{s}, entries))
		}
	}
	if labels < 250 || wide < 100 || passed < 250 {
		t.Errorf("only %d labels, %d wide ones, %d that were passed over: the chance is too poor", labels, wide, passed)
	}
}

// P2003: all opcodes as first bytes, with any bytes behind them.
func TestAnyBytesComeBack(t *testing.T) {
	chance := rand.New(rand.NewSource(20))
	for round := range 24 {
		b := make([]byte, 200)
		chance.Read(b)
		l := segments{{At: chance.Intn(65536 - len(b)), Bytes: b}}
		var entries []int
		for range 4 * round {
			entries = append(entries, l[0].At+chance.Intn(len(b)))
		}
		got, e := disasm.Source(l, entries)
		if want := bySecondReading(l, entries); got != want || e != api.OK {
			t.Fatalf("Source(%v, %v): %v\n%snot\n%s", l, entries, e, got, want)
		}
		wantBack(t, l, got)
	}
}
