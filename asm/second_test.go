package asm_test

import (
	"strings"
	"testing"

	"orrery/api"
	"orrery/asm"
)

// P1902, P1903: .BYTE.
func TestBytes(t *testing.T) {
	wantBytes(t, ".byte 0", 0, 0)
	wantBytes(t, ".byte -128, -1, 255", 0, 0x80, 0xff, 0xff)
	wantFault(t, "nop\n.byte -129", 1, api.ErrRange)
	wantFault(t, "nop\n.byte 256", 1, api.ErrRange)
	wantFault(t, ".byte 0, 1, 256", 0, api.ErrRange)
	wantFault(t, ".byte $ffffffff", 0, api.ErrRange)
	wantFault(t, ".byte k\nk = 256", 0, api.ErrRange)
	wantBytes(t, ".byte k, k-256\nk = 255", 0, 255, 255)
	wantBytes(t, "* = 3\n.byte *, *, 2\n.byte *", 3, 3, 3, 2, 6) // here is that of the line
	wantBytes(t, `.byte "a"`, 0, 'a')
	wantBytes(t, `.byte "", 1, "", "ab", ""`, 0, 1, 'a', 'b')
	wantBytes(t, `.byte ""`, 0)
	wantBytes(t, `.byte "\x00\xff\n,;é"`, 0, 0, 255, 10, ',', ';', 0xc3, 0xa9)
	wantBytes(t, `.byte 'a', 'a'+1, "(", ")"`, 0, 'a', 'b', '(', ')')
	wantBytes(t, ".byte (1), (1+2)*3, <$1234, >$1234", 0, 1, 9, 0x34, 0x12)
	for _, rest := range []string{`"a"+1`, `1+"a"`, `("a")`, `"a" "b"`, `<"a"`, `1, "a"+0`, `"a", )`, "1 2", "1 = 2", "#1", "(", "1:"} {
		wantFault(t, "nop\n.byte "+rest, 1, api.ErrSyntax)
	}
	wantFault(t, "nop\n.byte 1, none", 1, api.ErrUndefined)
	wantFault(t, "nop\n.byte 1/0", 1, api.ErrZero)
}

// P1902, P1903: .WORD.
func TestWords(t *testing.T) {
	wantBytes(t, ".word 0", 0, 0, 0)
	wantBytes(t, ".word $1234, 1", 0, 0x34, 0x12, 1, 0)
	wantBytes(t, ".word -32768, -1, 65535, 256", 0, 0, 0x80, 0xff, 0xff, 0xff, 0xff, 0, 1)
	wantFault(t, "nop\n.word -32769", 1, api.ErrRange)
	wantFault(t, "nop\n.word 65536", 1, api.ErrRange)
	wantFault(t, ".word 0, 65536", 0, api.ErrRange)
	wantFault(t, ".word -$80000000", 0, api.ErrRange)
	wantFault(t, ".word k\nk = 65536", 0, api.ErrRange)
	wantBytes(t, "* = $300\n.word *, l, k\nl:\nk = $abc", 0x300, 0, 3, 6, 3, 0xbc, 0x0a)
	wantFault(t, `.word "a"`, 0, api.ErrSyntax)
	wantFault(t, `.word ""`, 0, api.ErrSyntax)
	wantFault(t, `.word 1, "a"`, 0, api.ErrSyntax)
	wantFault(t, "nop\n.word none", 1, api.ErrUndefined)
	wantBytes(t, ".word 'a'", 0, 'a', 0)
}

// P1903: what a line tells in the second walk is told behind all that any line tells in the first one.
func TestWhichWalk(t *testing.T) {
	for _, late := range []string{".byte 256", ".word 65536", ".byte none", ".word 1/0", "lda #256", "bne 5000", "lda none", "jmp 1<<99", "lda -1"} {
		wantFault(t, late+"\nfoo foo", 1, api.ErrOp)
		wantFault(t, late+"\n.byte", 1, api.ErrLine)
		wantFault(t, late+"\nl:\nl:", 2, api.ErrTwice)
		wantFault(t, late+"\n.res none", 1, api.ErrUndefined)
		wantFault(t, late+"\nk = none", 1, api.ErrUndefined)
		wantFault(t, late+"\n* = 65537", 1, api.ErrRange)
		wantFault(t, late+"\n* = 65536\nnop", 2, api.ErrOver)
		wantFault(t, late+"\nlda )", 1, api.ErrSyntax)
		wantFault(t, late+"\nsta #1", 1, api.ErrMode)
		wantFault(t, late+"\n?", 1, api.ErrToken)
	}
	wantFault(t, ".byte 256\n.byte none", 0, api.ErrRange)
	wantFault(t, ".byte none\n.byte 256", 0, api.ErrUndefined)
	wantFault(t, "nop\n* = 0\nnop\n.byte none", 2, api.ErrOver)
	wantFault(t, "nop\n.byte none\n* = 0\nnop", 1, api.ErrUndefined)
}

// P1903: of two errors of one line the one that stands first; and bytes are laid when all of the line is worth something.
func TestSecondErrorOfALine(t *testing.T) {
	wantFault(t, ".byte none, 1/0", 0, api.ErrUndefined)
	wantFault(t, ".byte 1/0, none", 0, api.ErrZero)
	wantFault(t, ".byte 256, none", 0, api.ErrRange)
	wantFault(t, ".byte none, 256", 0, api.ErrUndefined)
	wantFault(t, ".word 65536, 1/0", 0, api.ErrRange)
	wantFault(t, "nop\n* = 0\n.byte none", 2, api.ErrUndefined)
	wantFault(t, "nop\n* = 0\n.byte 1, 256", 2, api.ErrRange)
	wantFault(t, "nop\n* = 0\nbne 5000", 2, api.ErrBranch)
	wantFault(t, "nop\n* = 0\nlda #256", 2, api.ErrRange)
	wantFault(t, "nop\n* = 0\nlda #255", 2, api.ErrOver)
}

// P1903: no byte stands where one of a line ahead stands.
func TestOver(t *testing.T) {
	wantFault(t, "nop\n* = 0\nnop", 2, api.ErrOver)
	wantFault(t, "* = 10\n.res 5\n* = 14\nnop", 3, api.ErrOver)
	wantFault(t, "* = 10\n.res 5\n* = 9\n.res 2", 3, api.ErrOver) // from below
	wantFault(t, "* = 10\n.res 5\n* = 9\njmp 5", 3, api.ErrOver)
	wantFault(t, "* = 10\n.res 5\n* = 0\n.res 30", 3, api.ErrOver)  // all around
	wantFault(t, "* = 10\n.res 5\n* = 12\n.byte 1", 3, api.ErrOver) // all within
	wantFault(t, "* = 10\n.res 5\n* = 14\n.word 1", 3, api.ErrOver) // from above
	wantFault(t, "* = 10\nnop\n* = 7\n.align 4\n* = 9\n.align 4", 5, api.ErrOver)
	wantFault(t, "* = 65535\nnop\n* = 65534\n.word 5", 3, api.ErrOver)
	wantFault(t, "nop\nnop\n* = 1\nnop\n* = 0\nnop", 3, api.ErrOver)
	wantBytes(t, "* = 10\n.res 5, 1\n* = 9\nnop\n* = 15\nbrk", 9, 0xea, 1, 1, 1, 1, 1, 0)
	wantBytes(t, "* = 10\nnop\n* = 10\n.res 0\n.byte \"\"\nl: .align 1", 10, 0xea)
	wantBytes(t, "* = 10\nnop\n* = 10\nl = *\n* = 11\nbrk", 10, 0xea, 0)
}

// P1903: each expression with all names, and with here of its line.
func TestAllNames(t *testing.T) {
	wantBytes(t, "jmp end\nnop\nend:", 0, 0x4c, 4, 0, 0xea)
	wantBytes(t, ".word l2, l1\nl1: .word l1\nl2: .byte l2-l1, l1-*", 0, 6, 0, 4, 0, 4, 0, 2, 0xfe)
	wantBytes(t, "* = $80\nlda *\nlda *\njmp *", 0x80, 0xa5, 0x80, 0xa5, 0x82, 0x4c, 0x84, 0x00)
	wantBytes(t, "l: .byte *, l, * - l", 0, 0, 0, 0)
	wantBytes(t, "* = 5\nlda #*\nlda #*", 5, 0xa9, 5, 0xa9, 7)
	wantNames(t, ".byte k\nk = 200\nl = k", asm.Name{Name: "k", Value: 200}, asm.Name{Name: "l", Value: 200})
}

// P1902, P1903: expressions that fill a line each have their own value; so do those that are alike but for one token.
func TestLongExpressions(t *testing.T) {
	long := strings.Repeat("1+", 100)
	other := strings.Repeat("2+", 100)
	wantBytes(t, ".byte "+long+"1\n.byte "+other+"1\n.byte "+long+"2\n.byte "+long+"1\n.byte 1", 0, 101, 201, 102, 101, 1)
	wantBytes(t, "lda "+long+"k\nlda "+other+"k\nk = 5", 0, 0xad, 105, 0, 0xad, 205, 0)
	wantFault(t, ".byte "+long+"1\n.byte "+long+"\n.byte "+long+")", 1, api.ErrSyntax)
	wantBytes(t, ".byte k+1, k+01, k-1, K+1, 'k'+1, k + 1, (k)+1\nk = 5\nK = 9", 0, 6, 6, 4, 10, 'k'+1, 6, 6)
	wantBytes(t, ".byte *\n.byte *\n.byte -*", 0, 0, 1, 0xfe) // the same tokens at another place
}

// P1902, P1903: as many lines with bytes as there can be.
func TestManyLines(t *testing.T) {
	source := strings.Repeat(".byte $4c\n", 65536)
	l := assembled(t, source)
	if len(l.Rows) != 65536 || len(l.Segments) != 1 || len(l.Segments[0].Bytes) != 65536 {
		t.Errorf("%d rows, %d segments", len(l.Rows), len(l.Segments))
	}
	wantFault(t, source+"nop", 65536, api.ErrOver)
}
