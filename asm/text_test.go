package asm_test

import (
	"fmt"
	"math"
	"strings"
	"testing"

	"orrery/asm"
)

// blank: what stands ahead of a line without a Row.
const blank = "                              "

type rows = []asm.Row

func wantText(t *testing.T, source string, list rows, want ...string) {
	t.Helper()
	if got := asm.Text(source, asm.Listing{Rows: list}); got != lines(want...) {
		t.Errorf("Text(%q, %v) is\n%q, not\n%q", brief(source), list, got, lines(want...))
	}
}

// count: bytes 1, 2 and so on.
func count(n int) []byte {
	var list []byte
	for i := range n {
		list = append(list, byte(i+1))
	}
	return list
}

// P1906: the whole of the first example.
func TestText(t *testing.T) {
	source := "* = $1000\nloop: dex\n bne loop\n brk"
	want := lines(
		"                              * = $1000",
		"1000  CA                      loop: dex",
		"1001  D0 FD                    bne loop",
		"1003  00                       brk")
	if got := asm.Text(source, assembled(t, source)); got != want {
		t.Errorf("Text is\n%s", got)
	}
	source = ".end\nnop\n\t.byte \"é\xff\"\r"
	if got := asm.Text(source, assembled(t, source)); got != lines(blank+".end", blank+"nop", blank+"\t.byte \"é\xff\"\r") {
		t.Errorf("Text is %q", got)
	}
	source = `* = $fff8
 .byte "0123456789"`
	if got := asm.Text(source, asm.Listing{}); got != lines(blank+"* = $fff8", blank+` .byte "0123456789"`) {
		t.Errorf("Text is %q", got)
	}
}

// P1906: lines without a Row; a source of nothing, and one that ends in byte 10.
func TestTextWithoutRows(t *testing.T) {
	if len(blank) != 30 {
		t.Fatalf("%d blanks", len(blank))
	}
	wantText(t, "", nil, blank)
	wantText(t, "\n", nil, blank, blank)
	wantText(t, "nop", nil, blank+"nop")
	wantText(t, "nop\n", nil, blank+"nop", blank)
	wantText(t, "\n\n x \n", nil, blank, blank, blank+" x ", blank)
	wantText(t, "", rows{{Line: 0, At: 5, Bytes: count(1)}}, "0005  01                      ")
	wantText(t, "\n", rows{{Line: 1, At: 5, Bytes: count(1)}}, blank, "0005  01                      ")
}

// P1906: as many bytes as a Row has.
func TestTextOfManyBytes(t *testing.T) {
	wantText(t, "x", rows{{At: 0x200}}, "0200                          x")
	wantText(t, "x", rows{{At: 0x200, Bytes: count(0)}}, "0200                          x")
	wantText(t, "x", rows{{At: 0x200, Bytes: count(1)}}, "0200  01                      x")
	wantText(t, "x", rows{{At: 0x200, Bytes: count(7)}}, "0200  01 02 03 04 05 06 07    x")
	wantText(t, "x", rows{{At: 0x200, Bytes: count(8)}}, "0200  01 02 03 04 05 06 07 08 x")
	wantText(t, "x\ny", rows{{At: 0x200, Bytes: count(9)}}, "0200  01 02 03 04 05 06 07 08 x", "0208  09                      ", blank+"y")
	wantText(t, "x\ny", rows{{At: 0x200, Bytes: count(16)}}, "0200  01 02 03 04 05 06 07 08 x", "0208  09 0A 0B 0C 0D 0E 0F 10 ", blank+"y")
	wantText(t, "x\ny", rows{{At: 0x200, Bytes: count(17)}, {Line: 1, At: 1}}, "0200  01 02 03 04 05 06 07 08 x", "0208  09 0A 0B 0C 0D 0E 0F 10 ", "0210  11                      ", "0001                          y")
}

// P1906: of all bytes and places the digits.
func TestTextDigits(t *testing.T) {
	var all []byte
	for b := range 256 {
		all = append(all, byte(b))
	}
	var want []string
	for at := 0; at < 256; at += 8 {
		want = append(want, fmt.Sprintf("%04X  % X ", 0xab00+at, all[at:at+8]))
	}
	want[0] += "x"
	wantText(t, "x", rows{{At: 0xab00, Bytes: all}}, want...)
	for place := range 65536 {
		if got := asm.Text("", asm.Listing{Rows: rows{{At: place}}}); got != fmt.Sprintf("%04X%26s", place, "") {
			t.Fatalf("the place %x: %q", place, got)
		}
	}
}

// P1906: of places beyond 65535 and below 0 the lowest 16 bits, farther along the bytes too.
func TestTextPlaces(t *testing.T) {
	for _, c := range []struct {
		at            int
		first, second string
	}{
		{0, "0000", "0008"}, {65535, "FFFF", "0007"}, {65536, "0000", "0008"}, {65528, "FFF8", "0000"}, {0x12345, "2345", "234D"}, {1 << 40, "0000", "0008"}, {-1, "FFFF", "0007"}, {-8, "FFF8", "0000"}, {-65536, "0000", "0008"},
		{math.MaxInt, "FFFF", "0007"}, {math.MinInt, "0000", "0008"}, {math.MaxInt - 7, "FFF8", "0000"},
	} {
		wantText(t, "x", rows{{At: c.at, Bytes: count(9)}}, c.first+"  01 02 03 04 05 06 07 08 x", c.second+"  09                      ")
	}
}

// P1906: Rows whose Line is none of the source's, or not above that of the last one that was told.
func TestTextPassesOver(t *testing.T) {
	source := "a\nb\nc"
	row := func(line int) asm.Row { return asm.Row{Line: line, At: line, Bytes: []byte{byte(line)}} }
	told := func(line int, text string) string { return fmt.Sprintf("%04X  %02X %21s%s", line, line, "", text) }
	all := []string{told(0, "a"), told(1, "b"), told(2, "c")}
	wantText(t, source, rows{row(0), row(1), row(2)}, all...)
	for _, wrong := range []int{-1, -2, math.MinInt, 3, 4, math.MaxInt} {
		wantText(t, source, rows{row(wrong)}, blank+"a", blank+"b", blank+"c")
		wantText(t, source, rows{row(wrong), row(0), row(wrong), row(1), row(2), row(wrong)}, all...)
	}
	wantText(t, source, rows{row(2), row(1), row(0)}, blank+"a", blank+"b", all[2])
	wantText(t, source, rows{row(1), row(0), row(2)}, blank+"a", all[1], all[2])
	wantText(t, source, rows{row(0), row(2), row(1)}, all[0], blank+"b", all[2])
	wantText(t, source, rows{row(0), {Line: 0, At: 9, Bytes: count(9)}, row(1)}, all[0], all[1], blank+"c")
	wantText(t, source, rows{row(-1), row(2), row(2), row(3)}, blank+"a", blank+"b", all[2])
	wantText(t, source, rows{{Line: 1, At: 7}, {Line: 1, At: 8, Bytes: count(1)}}, blank+"a", "0007"+blank[4:]+"b", blank+"c") // one without bytes is told, too
}

// P1906: neither Segments nor Names are asked.
func TestTextAsksRowsAlone(t *testing.T) {
	source := "l: nop\n.byte 1"
	l := assembled(t, source)
	want := asm.Text(source, l)
	l.Segments, l.Names = nil, []asm.Name{{Name: "?", Value: -1}}
	if got := asm.Text(source, l); got != want {
		t.Errorf("Text is %q, not %q", got, want)
	}
}

// P1906: of a source and a row of any length.
func TestLongText(t *testing.T) {
	const n = 100000
	got := asm.Text(strings.Repeat("\n", n), asm.Listing{Rows: rows{{Line: n, At: 3, Bytes: make([]byte, 8*n)}}})
	if list := strings.Split(got, "\n"); len(list) != 2*n || list[n-1] != blank || list[n] != "0003  00 00 00 00 00 00 00 00 " || !strings.HasPrefix(list[2*n-1], fmt.Sprintf("%04X  00 ", (3+8*(n-1))%65536)) {
		t.Errorf("%d lines", len(list))
	}
}
