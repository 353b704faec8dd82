package asm_test

import (
	"math/rand"
	"reflect"
	"regexp"
	"slices"
	"strconv"
	"strings"
	"testing"

	"orrery/api"
	"orrery/asm"
	"orrery/lexer"
	"orrery/modes"
	"orrery/opcode"
)

func wantSegments(t *testing.T, source string, want ...api.Segment) {
	t.Helper()
	got := assembled(t, source).Segments
	if len(got) != len(want) || len(want) > 0 && !reflect.DeepEqual(got, want) {
		t.Errorf("Assemble(%q) has %v, not %v", brief(source), got, want)
	}
}

// P1904: segments that touch are one, in whatever order their lines stand; they rise.
func TestSegments(t *testing.T) {
	wantSegments(t, "")
	wantSegments(t, "* = 5\nl = 3\n.res 0\n.byte \"\"")
	wantSegments(t, "nop\n* = 1\nbrk", api.Segment{At: 0, Bytes: []byte{0xea, 0}})
	wantSegments(t, "nop\n* = 2\nbrk", api.Segment{At: 0, Bytes: []byte{0xea}}, api.Segment{At: 2, Bytes: []byte{0}})
	wantSegments(t, "* = 2\nbrk\n* = 0\nnop", api.Segment{At: 0, Bytes: []byte{0xea}}, api.Segment{At: 2, Bytes: []byte{0}})
	wantSegments(t, "* = 1\nbrk\n* = 0\nnop", api.Segment{At: 0, Bytes: []byte{0xea, 0}})
	wantSegments(t, "* = 4\n.byte 4\n* = 0\n.byte 0\n* = 2\n.byte 2\n* = 3\n.byte 3\n* = 1\n.byte 1", api.Segment{At: 0, Bytes: []byte{0, 1, 2, 3, 4}})
	wantSegments(t, "* = 65535\n.byte 1\n* = 0\n.byte 2\n* = 256\n.word 3\n.word 4",
		api.Segment{At: 0, Bytes: []byte{2}}, api.Segment{At: 256, Bytes: []byte{3, 0, 4, 0}}, api.Segment{At: 65535, Bytes: []byte{1}})
}

// P1904: names in the order of their bytes; all that have values, whoever gave them.
func TestNamesInOrder(t *testing.T) {
	wantNames(t, "")
	wantNames(t, "nop ; no name")
	wantNames(t, "b nop\nB = -5\n_z:\na_1 = 7\na1 nop\na.1:\nZ9: .byte \"\"\naa = $ffffffff",
		asm.Name{Name: "B", Value: -5}, asm.Name{Name: "Z9", Value: 2}, asm.Name{Name: "_z", Value: 1}, asm.Name{Name: "a.1", Value: 2}, asm.Name{Name: "a1", Value: 1},
		asm.Name{Name: "a_1", Value: 7}, asm.Name{Name: "aa", Value: 1<<32 - 1}, asm.Name{Name: "b", Value: 0})
	wantNames(t, "n10:\nn9:\nn1:\nn:", asm.Name{Name: "n"}, asm.Name{Name: "n1"}, asm.Name{Name: "n10"}, asm.Name{Name: "n9"})
}

// P1904: rows of lines with bytes alone, in the order of the lines.
func TestRows(t *testing.T) {
	wantRows(t, "")
	wantRows(t, "l:\nk = 5\n* = 9\n.res 0\n.byte \"\"\n.align 3\n.end")
	wantRows(t, "* = 19\nl: nop\n\n* = 3\n.byte 1, 2\n.align 4\n.res 0\n.align 8\nlda l\n.res 2, 9\n.end",
		asm.Row{Line: 1, At: 19, Bytes: []byte{0xea}}, asm.Row{Line: 4, At: 3, Bytes: []byte{1, 2}}, asm.Row{Line: 5, At: 5, Bytes: []byte{0, 0, 0}},
		asm.Row{Line: 8, At: 8, Bytes: []byte{0xa5, 19}}, asm.Row{Line: 9, At: 10, Bytes: []byte{9, 9}})
}

// sources: some that have all kinds of lines, and no mode that is chosen by what is known ahead.
var sources = []string{
	"* = $1000\nloop: dex\n bne loop\n brk",
	"start = $300\n* = start\nbegin: ldx #count\nloop dex\n beq out\n jmp loop\nout: rts\ncount = 5\ntable: .word begin, loop, table-begin\n.byte <begin, >begin, count",
	"* = $c000\nfill = $ea\nsize = 3\nhead: .res size, fill\n.align size + 5\ntail: .byte \"abc\", tail - head, fill\n jmp (vector)\n.org tail + 32\nvector: .word head, *, vector",
	"port = $d000\nzero = $10\n* = $200\nagain: lda port\n sta zero\n lda port,x\n ldx zero,y\n lda (zero),y\n sta (zero,x)\n stx zero,y\n jsr again\n bne again\n bcc behind\nbehind: rti\n.end\nport = 1",
}

// P1904: Segments and Rows tell the same bytes.
func TestRowsAreTheSegments(t *testing.T) {
	for _, source := range sources {
		l := assembled(t, source)
		laid := map[int]byte{}
		last := -1
		for _, r := range l.Rows {
			if r.Line <= last || len(r.Bytes) == 0 {
				t.Errorf("%q: a row of line %d behind that of line %d, with %d bytes", source, r.Line, last, len(r.Bytes))
			}
			last = r.Line
			for i, b := range r.Bytes {
				laid[r.At+i] = b
			}
		}
		end := -1
		for _, s := range l.Segments {
			if s.At <= end || len(s.Bytes) == 0 {
				t.Errorf("%q: a segment at %d behind one that ends at %d", source, s.At, end)
			}
			end = s.At + len(s.Bytes)
			for i, b := range s.Bytes {
				if there, ok := laid[s.At+i]; !ok || there != b {
					t.Errorf("%q: %x at %x, not %x", source, b, s.At+i, there)
				}
				delete(laid, s.At+i)
			}
		}
		if len(laid) > 0 {
			t.Errorf("%q: in no segment: %v", source, laid)
		}
	}
}

// P1907: the bytes of a Row are the instruction that its line tells, at that place.
func TestRowsAreTheInstructions(t *testing.T) {
	for _, source := range sources {
		text := strings.Split(source, "\n")
		for _, r := range assembled(t, source).Rows {
			line, _, _ := asm.Split(text[r.Line])
			if line.Kind != asm.Instruction {
				continue
			}
			mnemonic, mode, ok := opcode.Of(r.Bytes[0])
			operand, e := modes.Operand(mode, r.Bytes[1:], r.At)
			told, f := modes.Show(mode, operand)
			if !ok || mnemonic != line.Word || len(r.Bytes) != modes.Length(mode) || e != api.OK || f != api.OK {
				t.Errorf("%q is % x: %s, mode %d", text[r.Line], r.Bytes, mnemonic, mode)
			}
			wantBytes(t, "* = "+strconv.Itoa(r.At)+"\n"+mnemonic+" "+told, r.At, r.Bytes...)
		}
	}
}

// P1907: a label's value is the place of its line.
func TestLabelsArePlaces(t *testing.T) {
	for _, source := range sources {
		l := assembled(t, source)
		for number, text := range strings.Split(source, "\n") {
			line, _, _ := asm.Split(text)
			row := slices.IndexFunc(l.Rows, func(r asm.Row) bool { return r.Line == number })
			if line.Label != "" && row >= 0 {
				wantValue(t, source, line.Label, l.Rows[row].At)
			}
		}
	}
}

var nameInText = regexp.MustCompile(`[A-Za-z_.][A-Za-z0-9_.]*`)

// withoutNames: the same lines with the values of all names in their places.
func withoutNames(source string, l asm.Listing) string {
	var list []string
	for line := range strings.SplitSeq(source, "\n") {
		split, _, _ := asm.Split(line)
		switch {
		case split.Kind == asm.Define:
			line = ""
		case split.Label != "":
			line = strings.TrimPrefix(strings.TrimPrefix(line, split.Label), ":")
		}
		list = append(list, nameInText.ReplaceAllStringFunc(line, func(word string) string {
			for _, n := range l.Names {
				if n.Name == word {
					return "(" + strconv.Itoa(n.Value) + ")+0"
				}
			}
			return word
		}))
		if split.Word == ".END" {
			break
		}
	}
	return strings.Join(list, "\n")
}

// P1907: names in place of their values change nothing, if no mode is chosen by what is known ahead.
func TestValuesInPlaceOfNames(t *testing.T) {
	for _, source := range sources {
		l := assembled(t, source)
		bare := withoutNames(source, l)
		again := assembled(t, bare)
		if !reflect.DeepEqual(again.Segments, l.Segments) || !reflect.DeepEqual(again.Rows, l.Rows) || len(again.Names) != 0 {
			t.Errorf("%q has %v, not %v", bare, again, l)
		}
	}
}

// P1907: what is assembled hangs on the tokens alone: blanks, remarks and letters of words change nothing.
func TestTokensAlone(t *testing.T) {
	chance := rand.New(rand.NewSource(19))
	for _, source := range sources {
		l := assembled(t, source)
		for range 20 {
			var list []string
			for line := range strings.SplitSeq(source, "\n") {
				told := ""
				for i, token := range lex(t, line) {
					text := token.Text
					if token.Kind == lexer.Text {
						text = strconv.Quote(text)
					}
					if split, _, _ := asm.Split(line); strings.EqualFold(text, split.Word) && split.Kind != asm.Define && chance.Intn(2) == 0 {
						text = strings.ToUpper(text)
					}
					if i > 0 || chance.Intn(2) == 0 {
						text = [...]string{" ", "\t", "\r ", "   "}[chance.Intn(4)] + text
					}
					told += text
				}
				list = append(list, told+[...]string{"", " ", "; lda #1", "\r", " ;\"'?"}[chance.Intn(5)])
			}
			if again := assembled(t, strings.Join(list, "\n")); !reflect.DeepEqual(again, l) {
				t.Errorf("%q has %v, not %v", list, again, l)
			}
		}
	}
}
