package asm_test

import (
	"reflect"
	"slices"
	"strings"
	"testing"

	"orrery/api"
	"orrery/asm"
	"orrery/lexer"
)

type tokens = []lexer.Token

func lex(t testing.TB, line string) tokens {
	t.Helper()
	list, at, e := lexer.Lex(line)
	if e != api.OK {
		t.Fatalf("Lex(%q): %d, %v", line, at, e)
	}
	return list
}

// brief: a source, as far as a message of a test has room for it.
func brief(source string) string {
	if len(source) > 200 {
		return source[:200] + " .."
	}
	return source
}

func assembled(t testing.TB, source string) asm.Listing {
	t.Helper()
	l, line, e := asm.Assemble(source)
	if line != 0 || e != api.OK {
		t.Fatalf("Assemble(%q): line %d, %v", brief(source), line, e)
	}
	return l
}

// isNothing: rule 3 of the document leaves open whether a list without an element is nil.
func isNothing(l asm.Listing) bool {
	return len(l.Segments) == 0 && len(l.Names) == 0 && len(l.Rows) == 0
}

func wantFault(t *testing.T, source string, line int, e api.Errno) {
	t.Helper()
	l, gotLine, gotE := asm.Assemble(source)
	if !isNothing(l) || gotLine != line || gotE != e {
		t.Errorf("Assemble(%q): %d segments, line %d, %v, not line %d, %v", brief(source), len(l.Segments), gotLine, gotE, line, e)
	}
}

// wantBytes: all that a source is, in one segment.
func wantBytes(t *testing.T, source string, at int, want ...byte) {
	t.Helper()
	l := assembled(t, source)
	if len(want) == 0 && len(l.Segments) == 0 {
		return
	}
	if len(l.Segments) != 1 || l.Segments[0].At != at || !slices.Equal(l.Segments[0].Bytes, want) {
		t.Errorf("Assemble(%q) has %v, not % x at %x", brief(source), l.Segments, want, at)
	}
}

func wantNames(t *testing.T, source string, want ...asm.Name) {
	t.Helper()
	if got := assembled(t, source).Names; !slices.Equal(got, want) {
		t.Errorf("Assemble(%q) has the names %v, not %v", brief(source), got, want)
	}
}

// wantValue: of one name among all.
func wantValue(t *testing.T, source, name string, value int) {
	t.Helper()
	if got := assembled(t, source).Names; !slices.Contains(got, asm.Name{Name: name, Value: value}) {
		t.Errorf("Assemble(%q) has the names %v, not %s %d", brief(source), got, name, value)
	}
}

func wantRows(t *testing.T, source string, want ...asm.Row) {
	t.Helper()
	got := assembled(t, source).Rows
	if len(got) != len(want) || len(want) > 0 && !reflect.DeepEqual(got, want) {
		t.Errorf("Assemble(%q) has the rows %v, not %v", brief(source), got, want)
	}
}

func lines(list ...string) string { return strings.Join(list, "\n") }

// The chapter's examples.
func TestExamples(t *testing.T) {
	first := "* = $1000\nloop: dex\n bne loop\n brk"
	wantBytes(t, first, 0x1000, 0xca, 0xd0, 0xfd, 0)
	wantNames(t, first, asm.Name{Name: "loop", Value: 4096})
	wantRows(t, first, asm.Row{Line: 1, At: 0x1000, Bytes: []byte{0xca}}, asm.Row{Line: 2, At: 0x1001, Bytes: []byte{0xd0, 0xfd}}, asm.Row{Line: 3, At: 0x1003, Bytes: []byte{0}})
	wantBytes(t, "lda x1\nx1 = 5", 0, 0xad, 5, 0)
	wantBytes(t, "x1 = 5\nlda x1", 0, 0xa5, 5)
	wantFault(t, "a = 1", 0, api.ErrLine)
	wantFault(t, "foo foo", 0, api.ErrOp)
	wantFault(t, "l:\nl:", 1, api.ErrTwice)
	wantFault(t, "bne far\n.res 200\nfar:", 0, api.ErrBranch)
	wantFault(t, "sta #1", 0, api.ErrMode)
	wantBytes(t, `.byte 1, "ab", 'c'`, 0, 1, 0x61, 0x62, 0x63)
	wantBytes(t, ".word -1", 0, 0xff, 0xff)
	wantFault(t, ".byte 256", 0, api.ErrRange)
	wantBytes(t, ".res 3, 7", 0, 7, 7, 7)
	text := strings.Split(asm.Text(first, assembled(t, first)), "\n")
	if text[1] != "1000  CA "+strings.Repeat(" ", 21)+"loop: dex" {
		t.Errorf("the second line is %q", text[1])
	}
}

// A program of some size, with all kinds of lines.
func TestProgram(t *testing.T) {
	source := lines(
		"; copies a text to the console",
		"console = $d000",
		"pointer = $10",
		"        * = $0200",
		"start:  ldx #<text",
		"        stx pointer",
		"        LDA #>text",
		"        sta pointer + 1",
		"        ldy #0",
		"again   lda (pointer),y",
		"        beq done",
		"        sta console",
		"        iny",
		"        bne again",
		"done:   jmp *",
		"        .align 16",
		`text:   .byte "Hi", 10, 0`,
		"table:  .word start, text-2, -1",
		"        .org $fffc",
		"        .Word start",
		"        .res 2, $ea",
		"        .END",
		"        this is not looked at ?",
	)
	l := assembled(t, source)
	want := []api.Segment{
		{At: 0x200, Bytes: []byte{
			0xa2, 0x20, 0x86, 0x10, 0xa9, 0x02, 0x85, 0x11, 0xa0, 0x00, 0xb1, 0x10, 0xf0, 0x06, 0x8d, 0x00, 0xd0, 0xc8, 0xd0, 0xf6, 0x4c, 0x14, 0x02,
			0, 0, 0, 0, 0, 0, 0, 0, 0, 'H', 'i', 10, 0, 0x00, 0x02, 0x1e, 0x02, 0xff, 0xff}},
		{At: 0xfffc, Bytes: []byte{0x00, 0x02, 0xea, 0xea}},
	}
	if !reflect.DeepEqual(l.Segments, want) {
		t.Errorf("the segments are %x, not %x", l.Segments, want)
	}
	wantNames(t, source, asm.Name{Name: "again", Value: 0x20a}, asm.Name{Name: "console", Value: 0xd000}, asm.Name{Name: "done", Value: 0x214}, asm.Name{Name: "pointer", Value: 0x10},
		asm.Name{Name: "start", Value: 0x200}, asm.Name{Name: "table", Value: 0x224}, asm.Name{Name: "text", Value: 0x220})
	var numbers []int
	for _, r := range l.Rows {
		numbers = append(numbers, r.Line)
	}
	if !slices.Equal(numbers, []int{4, 5, 6, 7, 8, 9, 10, 11, 12, 13, 14, 15, 16, 17, 19, 20}) {
		t.Errorf("the rows are of the lines %v", numbers)
	}
}
