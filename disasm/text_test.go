package disasm_test

import (
	"math"
	"testing"

	"orrery/disasm"
)

// F20.1: of a place the lowest 16 bits, bytes with a blank between, the text at column 16 or behind one blank.
func TestText(t *testing.T) {
	for _, c := range []struct {
		line line
		want string
	}{
		{line{}, "0000            \n"},
		{line{At: 0x1234, Text: "none"}, "1234            none\n"},
		{line{At: 0xabcd, Bytes: []byte{}, Text: "x"}, "ABCD            x\n"},
		{line{At: 1, Bytes: []byte{0xea}, Text: "NOP"}, "0001  EA        NOP\n"},
		{line{At: 0x603, Bytes: []byte{0xd0, 0xfd}, Text: "BNE $0602"}, "0603  D0 FD     BNE $0602\n"},
		{line{At: 0xffff, Bytes: []byte{1, 0x23, 0xef}, Text: "t"}, "FFFF  01 23 EF  t\n"},
		{line{At: 2, Bytes: []byte{1, 2, 3, 4}, Text: "t"}, "0002  01 02 03 04 t\n"},
		{line{At: 2, Bytes: []byte{1, 2, 3, 4, 5}, Text: "t"}, "0002  01 02 03 04 05 t\n"},
		{line{At: 2, Bytes: []byte{1, 2, 3, 4, 5, 6, 7, 8, 9}}, "0002  01 02 03 04 05 06 07 08 09 \n"},
		{line{At: 65536, Bytes: []byte{0}, Text: "BRK"}, "0000  00        BRK\n"},
		{line{At: 65536 + 0x1a2b, Bytes: []byte{0}, Text: "BRK"}, "1A2B  00        BRK\n"},
		{line{At: -1, Bytes: []byte{0}, Text: "BRK"}, "FFFF  00        BRK\n"},
		{line{At: -65536, Text: "a\nb"}, "0000            a\nb\n"},
		{line{At: -0x10000 - 0x123, Text: "a"}, "FEDD            a\n"},
		{line{At: math.MaxInt, Text: "\xff é", Target: 9}, "FFFF            \xff é\n"},
		{line{At: math.MinInt, Text: "z", Target: -9}, "0000            z\n"},
	} {
		if got := disasm.Text([]line{c.line}); got != c.want {
			t.Errorf("Text(%v): %q, not %q", c.line, got, c.want)
		}
	}
	if got := disasm.Text(nil) + disasm.Text([]line{}); got != "" {
		t.Errorf("of no lines %q", got)
	}
	two := []line{{At: 9, Bytes: []byte{0xa}, Text: "ASL A"}, {At: 3}, {At: 9, Text: "again"}}
	if got, want := disasm.Text(two), "0009  0A        ASL A\n0003            \n0009            again\n"; got != want {
		t.Errorf("%q, not %q", got, want)
	}
}

// F20.3.
func TestLabel(t *testing.T) {
	for place, want := range map[int]string{
		0: "L0000", 9: "L0009", 0xabcd: "LABCD", 65535: "LFFFF", 65536: "L0000", 65537: "L0001", -1: "LFFFF", -65535: "L0001", 0x12345678: "L5678", math.MaxInt: "LFFFF", math.MinInt: "L0000",
	} {
		if got := disasm.Label(place); got != want {
			t.Errorf("Label(%d): %q, not %q", place, got, want)
		}
	}
}
