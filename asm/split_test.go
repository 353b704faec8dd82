package asm_test

import (
	"regexp"
	"slices"
	"strings"
	"testing"

	"orrery/api"
	"orrery/asm"
	"orrery/lexer"
)

// wantLine: whose Rest is the tokens of the line from that one on.
func wantLine(t *testing.T, line, label string, kind int, word string, from int) {
	t.Helper()
	l, at, e := asm.Split(line)
	rest := lex(t, line)[from:]
	if l.Label != label || l.Kind != kind || l.Word != word || !slices.Equal(l.Rest, rest) || at != 0 || e != api.OK {
		t.Errorf("Split(%q) = %+v, %d, %v, not %q, %d, %q and %v", line, l, at, e, label, kind, word, rest)
	}
}

func wantNoLine(t *testing.T, line string, at int, e api.Errno) {
	t.Helper()
	l, gotAt, gotE := asm.Split(line)
	if l.Label != "" || l.Kind != 0 || l.Word != "" || len(l.Rest) != 0 || gotAt != at || gotE != e {
		t.Errorf("Split(%q) = %+v, %d, %v, not %d, %v", line, l, gotAt, gotE, at, e)
	}
}

// P1901: lines of all kinds, with a label and without.
func TestSplit(t *testing.T) {
	for _, ahead := range []struct {
		told, label string
		tokens      int
	}{
		{"", "", 0}, {"  ", "", 0}, {"loop: ", "loop", 2}, {"loop:", "loop", 2}, {" Loop : ", "Loop", 2}, {"loop ", "loop", 1}, {"\t_l.9\t", "_l.9", 1},
		{"lda: ", "lda", 2}, {"BNE:", "BNE", 2}, {"aa ", "aa", 1}, {"xy: ", "xy", 2}, {"ldaa ", "ldaa", 1}, {"a.: ", "a.", 2}, {"org ", "org", 1},
	} {
		for _, c := range []struct {
			told, word   string
			kind, tokens int
		}{
			{"", "", asm.Nothing, 0}, {"; lda #1", "", asm.Nothing, 0},
			{"lda #$10 ; go", "LDA", asm.Instruction, 1}, {"Nop", "NOP", asm.Instruction, 1}, {"ASL a", "ASL", asm.Instruction, 1}, {"jmp loop", "JMP", asm.Instruction, 1}, {"lda 1:", "LDA", asm.Instruction, 1},
			{".byte 1, 2", ".BYTE", asm.Directive, 1}, {".Org 5", ".ORG", asm.Directive, 1}, {".WORD", ".WORD", asm.Directive, 1}, {".res 1", ".RES", asm.Directive, 1}, {".align 2", ".ALIGN", asm.Directive, 1},
			{".eNd", ".END", asm.Directive, 1}, {".end 1 = ,", ".END", asm.Directive, 1},
			{"* = $1000", "", asm.Origin, 2}, {"*=", "", asm.Origin, 2}, {"*==*", "", asm.Origin, 2},
		} {
			wantLine(t, ahead.told+c.told, ahead.label, c.kind, c.word, ahead.tokens+c.tokens)
		}
	}
}

// P1901: a Define has no label; its name may be a mnemonic, and is told as it is.
func TestSplitDefine(t *testing.T) {
	for _, name := range []string{"x1", "Loop", "lda", "NOP", "_", "a.b", "aa", "org", "ax"} {
		wantLine(t, name+" = 5", "", asm.Define, name, 2)
		wantLine(t, "  "+name+"=", "", asm.Define, name, 2)
		wantLine(t, name+"== lda: .foo", "", asm.Define, name, 2)
		wantNoLine(t, "l: "+name+" = 5", 3, api.ErrLine)
		wantNoLine(t, "l  "+name+" = 5", 3, api.ErrLine)
		wantNoLine(t, "nop:"+name+"=5", 4, api.ErrLine)
	}
	for _, name := range []string{"a", "A", "x", "X", "y", "Y", ".", ".foo", ".byte", ".A", "..", ".9"} {
		wantNoLine(t, name+" = 5", 0, api.ErrLine)
		wantNoLine(t, "\t "+name+"=", 2, api.ErrLine)
		wantNoLine(t, "l: "+name+" = 5", 3, api.ErrLine)
		wantNoLine(t, "l "+name+" = 5", 2, api.ErrLine)
	}
}

// P1901: labels that can not be; the label is told ahead of what stands behind it.
func TestSplitBarredLabels(t *testing.T) {
	for _, name := range []string{"a", "A", "x", "X", "y", "Y"} {
		for _, behind := range []string{"", " nop", " * = 5", " .byte 1", " foo", " 5", " .foo", " x = 1", " ; go"} {
			wantNoLine(t, name+":"+behind, 0, api.ErrLine)
			wantNoLine(t, "  "+name+" :"+behind, 2, api.ErrLine)
			wantNoLine(t, " "+name+behind, 1, api.ErrLine)
		}
	}
	for _, name := range []string{".", ".foo", ".byte", ".END", ".a", "._"} {
		for _, behind := range []string{"", " nop", " * = 5", " .byte 1", " foo", " 5"} {
			wantNoLine(t, "  "+name+":"+behind, 2, api.ErrLine)
		}
	}
	wantNoLine(t, "  .foo", 2, api.ErrOp) // without a colon a directive is no label
	wantNoLine(t, ".foo nop", 0, api.ErrOp)
	wantLine(t, ".byte nop", "", asm.Directive, ".BYTE", 1)
	wantLine(t, "l: lda :", "l", asm.Instruction, "LDA", 3) // only one label is taken away
}

// P1901: what is left is no line.
func TestSplitWrongLines(t *testing.T) {
	for _, c := range []struct {
		line string
		at   int
		e    api.Errno
	}{
		{"foo foo", 4, api.ErrOp}, {"foo: foo", 5, api.ErrOp}, {"foo foo:", 4, api.ErrOp}, {"l: l2: nop", 3, api.ErrOp}, {"foo bar nop", 4, api.ErrOp}, {"l: a", 3, api.ErrOp},
		{".foo", 0, api.ErrOp}, {" .bytes 1", 1, api.ErrOp}, {"l: .foo 1", 3, api.ErrOp}, {"l .", 2, api.ErrOp}, {".org.", 0, api.ErrOp}, {"l: ld", 3, api.ErrOp}, {"l: ldaa", 3, api.ErrOp},
		{"5", 0, api.ErrLine}, {"  $10 nop", 2, api.ErrLine}, {"l: 5", 3, api.ErrLine}, {"l  'c'", 3, api.ErrLine}, {`"text"`, 0, api.ErrLine}, {`l: "nop"`, 3, api.ErrLine},
		{"=", 0, api.ErrLine}, {" = 5", 1, api.ErrLine}, {"l: = 5", 3, api.ErrLine}, {"*", 0, api.ErrLine}, {"* 5", 0, api.ErrLine}, {"l * + 5", 2, api.ErrLine}, {"* * = 5", 0, api.ErrLine},
		{":", 0, api.ErrLine}, {"l::", 2, api.ErrLine}, {": nop", 0, api.ErrLine}, {"#5", 0, api.ErrLine}, {"(nop)", 0, api.ErrLine}, {"l + 5", 2, api.ErrLine}, {"=*", 0, api.ErrLine}, {", nop", 0, api.ErrLine},
		{"5 = 5", 0, api.ErrLine}, {"'*' = 5", 0, api.ErrLine}, {`"*" = 5`, 0, api.ErrLine}, {"5: nop", 0, api.ErrLine}, {`"l": nop`, 0, api.ErrLine},
	} {
		wantNoLine(t, c.line, c.at, c.e)
	}
}

// P1901: the errors of Lex are told ahead of all else.
func TestSplitTellsLex(t *testing.T) {
	for _, c := range []struct {
		line string
		at   int
		e    api.Errno
	}{
		{"?", 0, api.ErrToken}, {"a: ?", 3, api.ErrToken}, {"foo foo $", 9, api.ErrToken}, {"5 'ab'", 4, api.ErrToken}, {"nop\n", 3, api.ErrToken}, {`.byte "a`, 8, api.ErrToken},
		{"lda 4294967296", 4, api.ErrRange}, {". . 4294967296", 4, api.ErrRange},
		{strings.Repeat(" ", api.MaxLine+1), api.MaxLine, api.ErrBig}, {"5" + strings.Repeat(";", api.MaxLine), api.MaxLine, api.ErrBig}, {strings.Repeat("?", 1000), api.MaxLine, api.ErrBig},
	} {
		wantNoLine(t, c.line, c.at, c.e)
	}
	wantLine(t, "nop"+strings.Repeat(" ", api.MaxLine-3), "", asm.Instruction, "NOP", 1)
}

// kindsOf: a letter for each token, as the words of P1901 tell them apart.
func kindsOf(l tokens) string {
	told := ""
	for _, t := range l {
		folded := lexer.Fold(t.Text)
		switch {
		case t.Kind == lexer.Name && folded == "LDA":
			told += "M"
		case t.Kind == lexer.Name && folded == ".BYTE":
			told += "D"
		case t.Kind == lexer.Name && folded == ".FOO":
			told += "U"
		case t.Kind == lexer.Name && folded == "X":
			told += "R"
		case t.Kind == lexer.Name:
			told += "N"
		case t.Kind == lexer.Mark && strings.Contains(":=*", t.Text):
			told += t.Text
		default:
			told += "o"
		}
	}
	return told
}

var (
	withColon    = regexp.MustCompile(`^[NMDUR]:`)
	withoutColon = regexp.MustCompile(`^[NR]([^=]|$)`)
	barred       = regexp.MustCompile(`^[DUR]`)
	defines      = regexp.MustCompile(`^[NMDUR]=`)
	origins      = regexp.MustCompile(`^\*=`)
)

// secondReading: what Split answers, by patterns over the kinds of tokens; how many of them the label takes, and how many stand ahead of Rest.
func secondReading(l tokens) (label, kind, from, fault int, e api.Errno) {
	kinds := kindsOf(l)
	switch {
	case withColon.MatchString(kinds):
		label = 2
	case withoutColon.MatchString(kinds):
		label = 1
	}
	if label > 0 && barred.MatchString(kinds) {
		return 0, 0, 0, 0, api.ErrLine
	}
	left := kinds[label:]
	switch {
	case left == "":
		return label, asm.Nothing, label, 0, api.OK
	case defines.MatchString(left) && (label > 0 || barred.MatchString(left)):
		return 0, 0, 0, label, api.ErrLine
	case defines.MatchString(left):
		return label, asm.Define, label + 2, 0, api.OK
	case origins.MatchString(left):
		return label, asm.Origin, label + 2, 0, api.OK
	case left[0] == 'D':
		return label, asm.Directive, label + 1, 0, api.OK
	case left[0] == 'M':
		return label, asm.Instruction, label + 1, 0, api.OK
	case strings.ContainsRune("NUR", rune(left[0])):
		return 0, 0, 0, label, api.ErrOp
	}
	return 0, 0, 0, label, api.ErrLine
}

// P1901: all rows of up to four telling tokens, against a second reading.
func TestSplitAllShortLines(t *testing.T) {
	words := []string{"foo", "lda", ".byte", ".foo", "x", ":", "=", "*", "5", `"a"`, "("}
	var all func(line string, more int)
	all = func(line string, more int) {
		list := lex(t, line)
		label, kind, from, fault, e := secondReading(list)
		if e != api.OK {
			wantNoLine(t, line, list[fault].At, e)
		} else {
			name, word := "", ""
			if label > 0 {
				name = list[0].Text
			}
			switch kind {
			case asm.Define:
				word = list[from-2].Text
			case asm.Directive, asm.Instruction:
				word = lexer.Fold(list[from-1].Text)
			}
			wantLine(t, line, name, kind, word, from)
		}
		if more > 0 {
			for _, word := range words {
				all(line+" "+word, more-1)
			}
		}
	}
	all("", 4)
}

// Each mnemonic and each directive is one, in any letters; no other name is.
func TestSplitKnowsAllWords(t *testing.T) {
	for word := range strings.FieldsSeq("ADC AND ASL BCC BCS BEQ BIT BMI BNE BPL BRK BVC BVS CLC CLD CLI CLV CMP CPX CPY DEC DEX DEY EOR INC INX INY JMP " +
		"JSR LDA LDX LDY LSR NOP ORA PHA PHP PLA PLP ROL ROR RTI RTS SBC SEC SED SEI STA STX STY TAX TAY TSX TXA TXS TYA") {
		small := strings.ToLower(word)
		for _, told := range []string{word, small, word[:1] + small[1:], small[:2] + word[2:]} {
			wantLine(t, "l: "+told+" 1", "l", asm.Instruction, word, 3)
			wantLine(t, told+" 1", "", asm.Instruction, word, 1)
			wantLine(t, told+":", told, asm.Nothing, "", 2)
		}
	}
	for _, word := range []string{".ORG", ".BYTE", ".WORD", ".RES", ".ALIGN", ".END"} {
		small := strings.ToLower(word)
		for _, told := range []string{word, small, word[:2] + small[2:]} {
			wantLine(t, "l: "+told+" 1", "l", asm.Directive, word, 3)
			wantLine(t, told+" 1", "", asm.Directive, word, 1)
		}
	}
	for _, told := range []string{".DB", ".ASCII", ".EQU", ".INCLUDE", ".OR", ".ENDS", ".TEXT", ".LDA", "..ORG", ".DS"} {
		wantNoLine(t, "l: "+told+" 1", 3, api.ErrOp)
	}
	for _, told := range []string{"LAX", "SLO", "BRA", "STZ", "LD", "LDAX", "HLT", "ORG", "BYTE"} {
		wantNoLine(t, "l: "+told+" 1", 3, api.ErrOp)
		wantLine(t, told+" nop", told, asm.Instruction, "NOP", 2)
	}
}
