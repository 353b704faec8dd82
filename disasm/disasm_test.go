package disasm_test

import (
	"reflect"
	"slices"
	"strings"
	"testing"

	"orrery/api"
	"orrery/asm"
	"orrery/disasm"
)

type (
	segments = []api.Segment
	line     = disasm.Line
)

// at: bytes at a place.
func at(place int, list ...byte) api.Segment { return api.Segment{At: place, Bytes: list} }

// sameLine: rule 3 of the document leaves open whether a list without an element is nil.
func sameLine(a, b line) bool {
	return a.At == b.At && slices.Equal(a.Bytes, b.Bytes) && a.Text == b.Text && a.Target == b.Target
}

func wantOne(t *testing.T, b []byte, place, pc int, want line) {
	t.Helper()
	got, e := disasm.One(b, place, pc)
	if !sameLine(got, want) || e != api.OK {
		t.Errorf("One(% x, %d, %d): %v, %v, not %v", b, place, pc, got, e, want)
	}
}

func wantNoOne(t *testing.T, b []byte, place, pc int) {
	t.Helper()
	got, e := disasm.One(b, place, pc)
	if !reflect.DeepEqual(got, line{}) || e != api.ErrArg {
		t.Errorf("One(%d bytes, %d, %d): %v, %v, not ErrArg", len(b), place, pc, got, e)
	}
}

func linesOf(t testing.TB, b []byte, pc int) []line {
	t.Helper()
	list, e := disasm.Lines(b, pc)
	if e != api.OK {
		t.Fatalf("Lines(%d bytes, %d): %v", len(b), pc, e)
	}
	return list
}

func followed(t testing.TB, b []byte, pc int, entries ...int) []line {
	t.Helper()
	list, e := disasm.Follow(b, pc, entries)
	if e != api.OK {
		t.Fatalf("Follow(%d bytes, %d, %v): %v", len(b), pc, entries, e)
	}
	return list
}

func wantNoFollow(t *testing.T, b []byte, pc int, entries ...int) {
	t.Helper()
	got, e := disasm.Follow(b, pc, entries)
	if len(got) != 0 || e != api.ErrArg {
		t.Errorf("Follow(%d bytes, %d, %v): %d lines, %v, not ErrArg", len(b), pc, entries, len(got), e)
	}
}

// wantFollowed: lines are told as Text tells them, with one blank between the columns.
func wantFollowed(t *testing.T, b []byte, pc int, entries []int, want ...string) {
	t.Helper()
	var got []string
	for _, l := range followed(t, b, pc, entries...) {
		got = append(got, disasm.Label(l.At)[1:]+" "+l.Text)
	}
	if !slices.Equal(got, want) {
		t.Errorf("Follow(% x, %#x, %v): %q, not %q", b, pc, entries, got, want)
	}
}

func wantSource(t *testing.T, l segments, entries []int, want ...string) {
	t.Helper()
	whole := strings.Join(append(want, ""), "\n")
	got, e := disasm.Source(l, entries)
	if got != whole || e != api.OK {
		t.Errorf("Source(%v, %v): %v, %v\n%s\nnot\n%s", l, entries, len(got), e, brief(got), brief(whole))
	}
	wantBack(t, l, got)
}

func wantNoSource(t *testing.T, what string, l segments, entries []int, e api.Errno) {
	t.Helper()
	got, gotE := disasm.Source(l, entries)
	if got != "" || gotE != e {
		t.Errorf("%s: %q, %v, not %v", what, brief(got), gotE, e)
	}
}

// wantBack: the assembler makes these segments, merged, of that source.
func wantBack(t *testing.T, l segments, source string) {
	t.Helper()
	made, number, e := asm.Assemble(source)
	want := mergedByPlaces(l)
	if e != api.OK || len(made.Segments) != len(want) || len(want) > 0 && !reflect.DeepEqual(made.Segments, want) {
		t.Errorf("back: line %d, %v, %d segments, not %d, of\n%s", number, e, len(made.Segments), len(want), brief(source))
	}
}

// mergedByPlaces: by a map of memory, place by place.
func mergedByPlaces(l segments) segments {
	var memory [65537]int // one more than the byte, 0 where there is none
	for _, s := range l {
		for i, b := range s.Bytes {
			memory[s.At+i] = int(b) + 1
		}
	}
	var list segments
	for place, b := range memory {
		if b > 0 && (place == 0 || memory[place-1] == 0) {
			list = append(list, at(place))
		}
		if b > 0 {
			last := &list[len(list)-1]
			last.Bytes = append(last.Bytes, byte(b-1))
		}
	}
	return list
}

// brief: a text, as far as a message of a test has room for it.
func brief(text string) string {
	if len(text) > 400 {
		return text[:400] + " .."
	}
	return text
}

// The chapter's examples.
func TestExamples(t *testing.T) {
	wantOne(t, []byte{0xa9, 0x80}, 0x200, 0x200, line{0x200, []byte{0xa9, 0x80}, "LDA #$80", -1})
	wantOne(t, []byte{0xd0, 0xfe}, 0x1000, 0x1000, line{0x1000, []byte{0xd0, 0xfe}, "BNE $1000", 0x1000})
	wantOne(t, []byte{0x4c}, 0, 0, line{0, []byte{0x4c}, ".byte $4C", -1})
	wantOne(t, []byte{0x02}, 0, 0, line{0, []byte{0x02}, ".byte $02", -1})
	told := disasm.Text(linesOf(t, []byte{0xa2, 5, 0xca, 0xd0, 0xfd, 0}, 0x600))
	if want := "0600  A2 05     LDX #$05\n0602  CA        DEX\n0603  D0 FD     BNE $0602\n0605  00        BRK\n"; told != want {
		t.Errorf("%q, not %q", told, want)
	}
	got := followed(t, []byte{0x4c, 4, 0, 0xea, 0x60}, 0, 0)
	want := []line{{0, []byte{0x4c, 4, 0}, "JMP $0004", 4}, {4, []byte{0x60}, "RTS", -1}}
	if !reflect.DeepEqual(got, want) {
		t.Errorf("%v, not %v", got, want)
	}
	wantSource(t, segments{at(0x1000, 0xca, 0xd0, 0xfd, 0)}, []int{0x1000}, "* = $1000", "L1000: DEX", "  BNE L1000", "  BRK")
	wantSource(t, segments{at(0, 0xad, 0x12, 0, 0x60)}, []int{0}, "* = $0000", "  .byte $AD,$12,$00", "  RTS")
}

// Example 5 of the whole document.
func TestThereAndBack(t *testing.T) {
	l, _, e := asm.Assemble("* = $1000\nloop: dex\n bne loop\n brk")
	if e != api.OK {
		t.Fatal(e)
	}
	wantSource(t, l.Segments, []int{0x1000}, "* = $1000", "L1000: DEX", "  BNE L1000", "  BRK")
}
