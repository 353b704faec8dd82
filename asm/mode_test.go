package asm_test

import (
	"strings"
	"testing"

	"orrery/api"
	"orrery/modes"
	"orrery/opcode"
)

// operands: of each mode one, written out, and the bytes behind the opcode at the place 0.
var operands = map[int]struct {
	told   string
	behind []byte
}{
	modes.Imp: {"", nil}, modes.Acc: {" a", nil}, modes.Imm: {" #$12", []byte{0x12}},
	modes.Zp: {" $12", []byte{0x12}}, modes.Zpx: {" $12,x", []byte{0x12}}, modes.Zpy: {" $12,y", []byte{0x12}},
	modes.Abs: {" $1234", []byte{0x34, 0x12}}, modes.Abx: {" $1234,X", []byte{0x34, 0x12}}, modes.Aby: {" $1234,Y", []byte{0x34, 0x12}},
	modes.Ind: {" ($1234)", []byte{0x34, 0x12}}, modes.Inx: {" ($12,x)", []byte{0x12}}, modes.Iny: {" ($12),y", []byte{0x12}},
	modes.Rel: {" $12", []byte{0x10}},
}

// P1902, P1903: all instructions, by their mnemonics and modes; ErrMode of the ones that are none.
func TestAllInstructions(t *testing.T) {
	found := 0
	for _, mnemonic := range opcode.Mnemonics() {
		has := opcode.Modes(mnemonic)
		for mode, operand := range operands {
			source := strings.ToLower(mnemonic) + operand.told
			code, there := opcode.Code(mnemonic, mode)
			switch {
			case there:
				found++
				wantBytes(t, source, 0, append([]byte{code}, operand.behind...)...)
			case !meets(has, mode):
				wantFault(t, source, 0, api.ErrMode)
			}
		}
	}
	if found != 151 {
		t.Errorf("%d instructions", found)
	}
}

// meets: has one of the modes the form that this one is written in?
func meets(has []int, mode int) bool {
	words := modes.Words()
	for _, one := range has {
		if words[one]>>4&15 == words[mode]>>4&15 {
			return true
		}
	}
	return false
}

// P1902: where two modes may be the narrow one is taken from 0 to 255, else the wide one.
func TestNarrowAndWide(t *testing.T) {
	for _, c := range []struct {
		ahead, behind string
		narrow, wide  byte
	}{
		{"lda ", "", 0xa5, 0xad}, {"lda ", ",x", 0xb5, 0xbd}, {"ldx ", ",y", 0xb6, 0xbe}, {"asl ", "", 0x06, 0x0e}, {"inc ", ",X", 0xf6, 0xfe}, {"sty ", "", 0x84, 0x8c}, {"bit ", "", 0x24, 0x2c},
	} {
		for _, n := range []string{"0", "$0000", "n", "n-n", "*"} {
			wantBytes(t, "n = 0\n"+c.ahead+n+c.behind, 0, c.narrow, 0)
		}
		for _, n := range []string{"255", "$00ff", "n", "n*1", "<n", "*+n", "~-256"} {
			wantBytes(t, "n = 255\n"+c.ahead+n+c.behind, 0, c.narrow, 255)
		}
		for _, n := range []string{"256", "$100", "n", "n+0", "n&$fff", "*+n"} {
			wantBytes(t, "n = 256\n"+c.ahead+n+c.behind, 0, c.wide, 0, 1)
		}
		wantBytes(t, c.ahead+"65535"+c.behind, 0, c.wide, 255, 255)
		wantFault(t, "nop\n"+c.ahead+"65536"+c.behind, 1, api.ErrRange)
		wantFault(t, "nop\n"+c.ahead+"-1"+c.behind, 1, api.ErrRange)
		wantFault(t, c.ahead+"-1"+c.behind+"\nfoo foo", 1, api.ErrOp) // it is the second walk that tells it
		wantValue(t, c.ahead+"k"+c.behind+"\nk = 5\nl:", "l", 3)
		wantValue(t, "k = 5\n"+c.ahead+"k"+c.behind+"\nl:", "l", 2)
	}
}

// P1902: a name that has a value only farther down, whatever it is, and what has no value at all, chooses the wide mode.
func TestNamesFartherDown(t *testing.T) {
	wantBytes(t, "lda k\nk = 0", 0, 0xad, 0, 0)
	wantBytes(t, "lda k-k\nk = 5", 0, 0xad, 0, 0)
	wantBytes(t, "lda <k\nk = 5", 0, 0xad, 5, 0)
	wantBytes(t, "lda 1+0*k,x\nk = 5", 0, 0xbd, 1, 0)
	wantBytes(t, "l: lda l", 0, 0xa5, 0) // a line's own label has its value already
	wantBytes(t, "lda l\nl:", 0, 0xad, 3, 0)
	wantBytes(t, "* = $fd\nlda l\nl: lda l", 0xfd, 0xad, 0x00, 0x01, 0xad, 0x00, 0x01)
	wantBytes(t, "* = $ff\nl: lda l", 0xff, 0xa5, 0xff)
	wantBytes(t, "* = $100\nl: lda l", 0x100, 0xad, 0x00, 0x01)
	wantBytes(t, "* = $fe\nlda *", 0xfe, 0xa5, 0xfe)
	wantFault(t, "nop\nlda k", 1, api.ErrUndefined)
	wantFault(t, "nop\nlda K\nk = 5", 1, api.ErrUndefined)
	wantFault(t, "nop\nlda 1/0\nlda none", 1, api.ErrZero)
	wantFault(t, "nop\nlda $ffffffff+1", 1, api.ErrRange)
	wantFault(t, "nop\nlda 5/(k-k)\nk = 1\nfoo foo", 3, api.ErrOp)
	wantFault(t, "nop\nlda 5/(k-k)\nk = 1", 1, api.ErrZero)
}

// P1902: where but one mode may be the value does not choose.
func TestTheOnlyMode(t *testing.T) {
	wantBytes(t, "jmp 5", 0, 0x4c, 5, 0)
	wantBytes(t, "jsr 0", 0, 0x20, 0, 0)
	wantBytes(t, "lda 5,y", 0, 0xb9, 5, 0)
	wantBytes(t, "jmp (5)", 0, 0x6c, 5, 0)
	wantBytes(t, "stx 5,y", 0, 0x96, 5)
	wantBytes(t, "stx k,y\nk = 5", 0, 0x96, 5)
	wantBytes(t, "sty k,x\nk = 255", 0, 0x94, 255)
	wantFault(t, "stx 256,y", 0, api.ErrRange)
	wantFault(t, "sty k,x\nk = 256", 0, api.ErrRange)
	wantFault(t, "stx 5,x", 0, api.ErrMode)
	wantFault(t, "sty $1234,y", 0, api.ErrMode)
	wantBytes(t, "lda #k\nk = 255", 0, 0xa9, 255)
	wantBytes(t, "lda #0", 0, 0xa9, 0)
	wantFault(t, "lda #256", 0, api.ErrRange)
	wantFault(t, "lda #-1", 0, api.ErrRange)
	wantBytes(t, "lda #<-1", 0, 0xa9, 255)
	wantBytes(t, "lda (255,x)", 0, 0xa1, 255)
	wantFault(t, "lda (256,x)", 0, api.ErrRange)
	wantBytes(t, "lda (0),y", 0, 0xb1, 0)
	wantFault(t, "lda (-1),y", 0, api.ErrRange)
	wantFault(t, "jmp 65536", 0, api.ErrRange)
	wantBytes(t, "jmp 65535", 0, 0x4c, 255, 255)
	wantFault(t, "jmp -1", 0, api.ErrRange)
	wantFault(t, "lda (5)", 0, api.ErrMode) // LDA has no such mode
	wantBytes(t, "lda (5)+0", 0, 0xa5, 5)
	wantBytes(t, "asl a", 0, 0x0a)
	wantBytes(t, "ASL A", 0, 0x0a)
	wantFault(t, "asl", 0, api.ErrMode)
	wantFault(t, "lda", 0, api.ErrMode)
	wantFault(t, "lda a", 0, api.ErrMode)
	wantFault(t, "nop 5", 0, api.ErrMode)
	wantFault(t, "nop #5", 0, api.ErrMode)
	wantFault(t, "bne 5,x", 0, api.ErrMode)
	wantFault(t, "inc a", 0, api.ErrMode)
}

// P1902: the errors of modes.Split and of expr.Parse.
func TestOperandsThatAreNone(t *testing.T) {
	for _, rest := range []string{"#", ",x", ",Y", "()", "(,x)", "(),y"} {
		wantFault(t, "nop\nlda "+rest, 1, api.ErrMode)
		wantFault(t, "nop\nnop "+rest, 1, api.ErrMode)
	}
	for _, rest := range []string{"1 2", "(1", "1)", "1+", `"a"`, "#1,x", "1,2", "1,x,y", "5 = 5", "5: 5", "k lda", "##1"} {
		wantFault(t, "nop\nlda "+rest, 1, api.ErrSyntax)
	}
	wantFault(t, "lda x", 0, api.ErrUndefined) // a register is a name there that nobody can give a value
	wantFault(t, "lda a+1", 0, api.ErrUndefined)
}

// P1903: branches as far as they go, and one farther.
func TestBranches(t *testing.T) {
	far := func(n string) string { return ".res " + n + "\n" }
	for mnemonic, code := range map[string]byte{"bpl": 0x10, "bmi": 0x30, "bvc": 0x50, "bvs": 0x70, "bcc": 0x90, "bcs": 0xb0, "bne": 0xd0, "beq": 0xf0} {
		wantBytes(t, mnemonic+" l\nl:", 0, code, 0)
		wantBytes(t, mnemonic+" *", 0, code, 0xfe)
		wantBytes(t, "* = $1000\n"+mnemonic+" $1081", 0x1000, code, 0x7f)
		wantBytes(t, "* = $1000\n"+mnemonic+" $f82", 0x1000, code, 0x80)
		wantFault(t, "* = $1000\n"+mnemonic+" $1082", 1, api.ErrBranch)
		wantFault(t, "* = $1000\n"+mnemonic+" $f81", 1, api.ErrBranch)
		wantFault(t, mnemonic+" l\n"+far("128")+"l:", 0, api.ErrBranch)
		wantFault(t, "l:\n"+far("127")+mnemonic+" l", 2, api.ErrBranch)
		wantValue(t, mnemonic+" l\n"+far("127")+"l:", "l", 129)
		wantValue(t, "l:\n"+far("126")+mnemonic+" l", "l", 0)
	}
	last := assembled(t, "bne l\n"+far("127")+"l:").Rows[0].Bytes
	first := assembled(t, "l:\n"+far("126")+"bne l").Rows[1].Bytes
	if last[1] != 0x7f || first[1] != 0x80 {
		t.Errorf("% x, % x", last, first)
	}
	wantBytes(t, "bne $ff82", 0, 0xd0, 0x80) // round the end of memory
	wantFault(t, "bne $ff81", 0, api.ErrBranch)
	wantBytes(t, "* = $fffe\nbne 127", 0xfffe, 0xd0, 0x7f)
	wantFault(t, "* = $fffe\nbne 128", 1, api.ErrBranch)
	wantFault(t, "* = $fffe\nbne 65536", 1, api.ErrRange)
	wantFault(t, "bne -1", 0, api.ErrRange)
	wantFault(t, "bne l\n* = 65536\nl:", 0, api.ErrRange)
	wantFault(t, "nop\nbne none", 1, api.ErrUndefined)
	wantFault(t, "bne 1/0", 0, api.ErrZero)
}
