package asm_test

import (
	"strconv"
	"strings"
	"testing"

	"orrery/api"
	"orrery/asm"
)

// P1902: as long a source as may be, and one byte more.
func TestSourceLength(t *testing.T) {
	remark := ";" + strings.Repeat("-", 62) + "\n"
	whole := strings.Repeat(remark, api.MaxText/len(remark))
	if len(whole) != api.MaxText {
		t.Fatalf("%d bytes", len(whole))
	}
	wantBytes(t, whole, 0)
	wantBytes(t, whole[:api.MaxText-4]+"\nnop", 0, 0xea)
	wantFault(t, whole+"\n", 0, api.ErrBig)
	wantFault(t, whole+" ", 0, api.ErrBig)
	wantFault(t, "? ?\n"+whole, 0, api.ErrBig)
	wantFault(t, strings.Repeat("x", 2*api.MaxText), 0, api.ErrBig)
	wantFault(t, strings.Repeat("\n", api.MaxText-1)+"?", api.MaxText-1, api.ErrToken)
	wantBytes(t, strings.Repeat("\n", api.MaxText), 0)
	wantFault(t, strings.Repeat("\n", api.MaxText+1), 0, api.ErrBig)
}

// P1902: the first line that fails is told, with its number; errors of Split have no place of their own here.
func TestLinesAreCounted(t *testing.T) {
	wantBytes(t, "", 0)
	wantBytes(t, "\n", 0)
	wantBytes(t, "\n\nnop\n", 0, 0xea)
	wantBytes(t, "nop\r\n\tnop \r\n", 0, 0xea, 0xea)
	wantFault(t, "nop\rfoo", 0, api.ErrMode) // a byte 13 is a blank
	for n := range 5 {
		ahead := strings.Repeat("nop\n", n)
		wantFault(t, ahead+"?", n, api.ErrToken)
		wantFault(t, ahead+"  $\nnop", n, api.ErrToken)
		wantFault(t, ahead+"lda 4294967296", n, api.ErrRange)
		wantFault(t, ahead+strings.Repeat(" ", api.MaxLine+1)+"\n?", n, api.ErrBig)
		wantFault(t, ahead+"foo foo\n5", n, api.ErrOp)
		wantFault(t, ahead+".foo\n5", n, api.ErrOp)
		wantFault(t, ahead+"5\nfoo foo", n, api.ErrLine)
		wantFault(t, ahead+"a:\nfoo foo", n, api.ErrLine)
		wantFault(t, ahead+"l: x1 = 5", n, api.ErrLine)
	}
	wantBytes(t, "nop"+strings.Repeat(" ", api.MaxLine-3)+"\n"+strings.Repeat(";", api.MaxLine), 0, 0xea)
}

// P1902: lines behind .END are not looked at, in neither walk.
func TestEnd(t *testing.T) {
	for _, end := range []string{".end", ".END", "  .End ; that is all", "l: .end", "l .end"} {
		for _, behind := range []string{"", "\n", "\n?", "\nfoo foo", "\nlda none", "\n* = 0\nnop", "\nl2:", "\n" + strings.Repeat("x", api.MaxLine+1), "\n.end 5"} {
			wantBytes(t, "nop\n"+end+behind, 0, 0xea)
		}
	}
	wantNames(t, ".res 5\nl: .end\nk: nop", asm.Name{Name: "l", Value: 5})
	wantFault(t, "lda k\n.end\nk = 5", 0, api.ErrUndefined)
	wantFault(t, "nop\n.end 5", 1, api.ErrLine)
	wantFault(t, "nop\n.end nop\n?", 1, api.ErrLine)
	wantFault(t, ".end ,", 0, api.ErrLine)
	wantFault(t, ".end )", 0, api.ErrLine)
	wantFault(t, "l:\nl: .end 5", 1, api.ErrTwice)
	wantBytes(t, "end: nop\n.byte \".end\"\nnop ; .end\nbrk", 0, 0xea, '.', 'e', 'n', 'd', 0xea, 0)
}

// P1902: a name has one value, be it a label's or a Define's.
func TestTwice(t *testing.T) {
	for _, first := range []string{"l:", "l", "l nop", "l: .byte 1", "l = 5", "l: * = 10"} {
		for _, second := range []string{"l:", "l", "l nop", "l = 5", "l = l", "l = 6", "l: * = 3", "l .end", "l sta #1", "l: .byte 1,", "l lda )"} {
			wantFault(t, first+"\nnop\n"+second, 2, api.ErrTwice)
		}
	}
	wantFault(t, "l = 1\nl = none", 1, api.ErrUndefined) // a Define is worth something ahead
	wantFault(t, "l = 1\nl = )", 1, api.ErrSyntax)
	wantFault(t, "l = 1\nl = 1/0", 1, api.ErrZero)
	wantNames(t, "loop:\nLoop = 7\nLOOP nop\nloo:\nloop_:", asm.Name{Name: "LOOP", Value: 0}, asm.Name{Name: "Loop", Value: 7}, asm.Name{Name: "loo", Value: 1}, asm.Name{Name: "loop", Value: 0}, asm.Name{Name: "loop_", Value: 1})
	wantNames(t, "lda: lda lda\nnop = 3\nldx #nop", asm.Name{Name: "lda", Value: 0}, asm.Name{Name: "nop", Value: 3})
}

// P1902: MaxLabels names, and one more.
func TestTooManyNames(t *testing.T) {
	var b strings.Builder
	for i := range api.MaxLabels {
		b.WriteString("n" + strconv.Itoa(i))
		if i%2 == 0 {
			b.WriteString(" = 7")
		}
		b.WriteByte('\n')
	}
	all := b.String()
	if l := assembled(t, all+"nop"); len(l.Names) != api.MaxLabels {
		t.Errorf("%d names", len(l.Names))
	}
	for _, more := range []string{"one", "one:", "one nop", "one = 5", "one: .end", "one sta #1"} {
		wantFault(t, all+more, api.MaxLabels, api.ErrBig)
	}
	for _, again := range []string{"n0", "n1:", "n4095 nop", "n7 = 5", "n8 = n7"} {
		wantFault(t, all+again, api.MaxLabels, api.ErrTwice)
	}
	wantFault(t, all+"one = none", api.MaxLabels, api.ErrUndefined)
	wantFault(t, all+"one = (", api.MaxLabels, api.ErrSyntax)
	wantFault(t, all+"lda none", api.MaxLabels, api.ErrUndefined)
	wantBytes(t, all+"lda n6\n.end\none:", 0, 0xa5, 7)
}

// P1902: what a Define is worth now, with the names so far and here.
func TestDefine(t *testing.T) {
	wantNames(t, "a1 = 5\nb1 = a1 * 2\nc1 = b1 - a1 - 6", asm.Name{Name: "a1", Value: 5}, asm.Name{Name: "b1", Value: 10}, asm.Name{Name: "c1", Value: -1})
	wantValue(t, "here = *", "here", 0)
	wantValue(t, "* = $1234\nhere = *", "here", 0x1234)
	wantValue(t, "nop\nnop\nhere = * + 1", "here", 3)
	wantValue(t, "* = 65536\nhere = *", "here", 65536)
	wantValue(t, "n = $ffffffff", "n", 1<<32-1)
	wantValue(t, "n = -$80000000", "n", -1<<31)
	wantValue(t, "n = 'a'", "n", 97)
	wantFault(t, "nop\nn = $ffffffff + 1", 1, api.ErrRange)
	wantFault(t, "n = -$80000000 - 1", 0, api.ErrRange)
	wantFault(t, "n = k\nk = 5", 0, api.ErrUndefined)
	wantFault(t, "n = n", 0, api.ErrUndefined)
	wantFault(t, "n = L\nl = 5", 0, api.ErrUndefined)
	wantFault(t, "n = 1 << 32", 0, api.ErrRange)
	wantFault(t, "n = 1 / 0", 0, api.ErrZero)
	wantFault(t, "n = 1 / 0 + k", 0, api.ErrZero)
	wantFault(t, "n = k + 1 / 0", 0, api.ErrUndefined)
	for _, rest := range []string{"", "1 2", "(1", `"a"`, "#1", "1, 2", "= 1", "a:", "*=5"} {
		wantFault(t, "nop\nn = "+rest, 1, api.ErrSyntax)
	}
}

// P1902: origins, in both ways of telling them. The label of the line has the place ahead.
func TestOrigin(t *testing.T) {
	for _, told := range []string{"* = ", "*=", ".org ", " .ORG\t", "* = 0 + ", ".org 0+"} {
		wantBytes(t, told+"0\nnop", 0, 0xea)
		wantBytes(t, told+"65535\nnop", 65535, 0xea)
		wantValue(t, told+"65536\nl:", "l", 65536)
		wantFault(t, "nop\n"+told+"-1", 1, api.ErrRange)
		wantFault(t, "nop\n"+told+"65537", 1, api.ErrRange)
		wantFault(t, told+"$ffffffff", 0, api.ErrRange)
		wantFault(t, told+"-$80000000", 0, api.ErrRange)
		wantFault(t, told+"none", 0, api.ErrUndefined)
		wantFault(t, told+"l\nl = 5", 0, api.ErrUndefined)
		wantFault(t, told+"1/0", 0, api.ErrZero)
		wantFault(t, told+"1 2", 0, api.ErrSyntax)
		wantFault(t, told+"(", 0, api.ErrSyntax)
		wantFault(t, told+"1, 2", 0, api.ErrSyntax)
		wantFault(t, told+`"a"`, 0, api.ErrSyntax)
		wantBytes(t, "nop\n"+told+"* + 0\nbrk", 0, 0xea, 0)
		wantNames(t, "* = $10\nl: "+told+"$20\nk:", asm.Name{Name: "k", Value: 0x20}, asm.Name{Name: "l", Value: 0x10})
		wantBytes(t, "* = $10\nl: "+told+"l + *\nnop", 0x20, 0xea)
		wantBytes(t, told+"$300\n"+told+"$100\nnop", 0x100, 0xea)
	}
	wantFault(t, "* =", 0, api.ErrSyntax)
	wantFault(t, ".org", 0, api.ErrSyntax)
	wantFault(t, ".org = 5", 0, api.ErrLine)
}

// P1902: .RES, how many bytes.
func TestReserve(t *testing.T) {
	wantBytes(t, ".res 0\nnop", 0, 0xea)
	wantBytes(t, ".res 1", 0, 0)
	wantBytes(t, "nop\n.res 2\nnop", 0, 0xea, 0, 0, 0xea)
	wantBytes(t, ".res 65536", 0, make([]byte, 65536)...)
	wantBytes(t, ".res 65536\n.res 0\nl:", 0, make([]byte, 65536)...)
	wantBytes(t, "* = 65536\n.res 0", 0)
	wantBytes(t, "* = 3\n.res *", 3, 0, 0, 0)
	wantBytes(t, "n = 2\n.res n, n + 1", 0, 3, 3)
	wantBytes(t, "* = 2\nl: .res l, *", 2, 2, 2)
	wantBytes(t, ".res (1+2)*1,(4)", 0, 4, 4, 4)
	for _, n := range []string{"-1", "65537", "$ffffffff", "-$80000000"} {
		wantFault(t, "nop\n.res "+n, 1, api.ErrRange)
		wantFault(t, ".res "+n+", 1", 0, api.ErrRange)
	}
	wantFault(t, "nop\n.res 65536", 1, api.ErrOver)
	wantFault(t, ".res l\nl:", 0, api.ErrUndefined)
	wantFault(t, ".res 1, l\nl:", 0, api.ErrUndefined)
	wantFault(t, ".res 1/0", 0, api.ErrZero)
}

// P1902: .RES, what they are.
func TestReserveFilled(t *testing.T) {
	wantBytes(t, ".res 2, -128", 0, 0x80, 0x80)
	wantBytes(t, ".res 2, -1", 0, 0xff, 0xff)
	wantBytes(t, ".res 2, 0", 0, 0, 0)
	wantBytes(t, ".res 2, 255", 0, 255, 255)
	wantBytes(t, ".res 2, 'a'", 0, 'a', 'a')
	wantFault(t, "nop\n.res 2, -129", 1, api.ErrRange)
	wantFault(t, "nop\n.res 2, 256", 1, api.ErrRange)
	wantFault(t, ".res 0, 256", 0, api.ErrRange)
	wantFault(t, ".res 0, none", 0, api.ErrUndefined)
	wantFault(t, ".res 2, $ffffffff", 0, api.ErrRange)
	wantFault(t, `.res 2, "a"`, 0, api.ErrSyntax)
	wantFault(t, `.res "a"`, 0, api.ErrSyntax)
	wantFault(t, ".res 65537, 256", 0, api.ErrRange)
	wantFault(t, ".res 65537, none", 0, api.ErrRange) // in turn: the first part goes ahead of the second
	wantFault(t, ".res 65537, )", 0, api.ErrRange)
	wantFault(t, ".res none, )", 0, api.ErrUndefined)
	wantFault(t, ".res none, 256", 0, api.ErrUndefined)
	wantFault(t, ".res ), none", 0, api.ErrSyntax)
	wantFault(t, ".res 1/0, none", 0, api.ErrZero)
	wantFault(t, ".res 65536, none", 0, api.ErrUndefined)
	wantFault(t, "nop\n.res 65536, 256", 1, api.ErrRange)
}

// P1902: ErrLine of Parts goes ahead of all that the expressions of the line could tell.
func TestPartsThatAreMissing(t *testing.T) {
	for _, word := range []string{".byte", ".word", ".res"} {
		for _, rest := range []string{"", ",", "1,", ",1", ",,", "none,", ",none", "+,,", "1/0,", `"a",`, ", )", "(1,2),"} {
			wantFault(t, "nop\n"+word+" "+rest, 1, api.ErrLine)
		}
	}
	for _, word := range []string{".byte", ".word"} {
		for _, rest := range []string{"1,,2", "1,2,", ",1,2", "none,,)", "1,2,3,4,,5"} {
			wantFault(t, "nop\n"+word+" "+rest, 1, api.ErrLine)
		}
	}
	for _, rest := range []string{"1,2,3", "1,2,3,4", "none,+,1/0", "65537,256,1", `"a","b","c"`, "1,,2", "1,2,", "+,1,2"} {
		wantFault(t, ".res "+rest, 0, api.ErrLine)
	}
	wantFault(t, ".res ),1,2", 0, api.ErrSyntax) // no Mark of these stands outside of parentheses
	wantFault(t, ".res (1,2)", 0, api.ErrSyntax) // one part, that is no expression
	wantFault(t, ".byte (1,2)", 0, api.ErrSyntax)
	wantFault(t, ".byte ()", 0, api.ErrSyntax)
	wantFault(t, ".byte 1),", 0, api.ErrSyntax)
}

// P1902: .ALIGN.
func TestAlign(t *testing.T) {
	for _, n := range []string{"1", "2", "256", "65536"} {
		wantBytes(t, ".align "+n, 0)
		wantValue(t, "* = 65536\n.align "+n+"\nl:", "l", 65536)
	}
	wantBytes(t, "* = 1\n.align 1\nnop", 1, 0xea)
	wantBytes(t, "* = 4\n.align 4\nnop", 4, 0xea)
	wantBytes(t, "* = 5\n.align 4\nnop", 5, 0, 0, 0, 0xea)
	wantBytes(t, "* = 7\n.align 4\nnop", 7, 0, 0xea)
	wantBytes(t, "* = 8\n.align 4\nnop", 8, 0xea)
	wantBytes(t, "* = 8\n.align 3\nnop", 8, 0, 0xea)
	wantBytes(t, "* = 1\n.align 256", 1, make([]byte, 255)...)
	wantBytes(t, "* = 1\n.align 65536", 1, make([]byte, 65535)...)
	wantBytes(t, "* = 65535\n.align 65536", 65535, 0)
	wantBytes(t, "* = 1\n.align 65535", 1, make([]byte, 65534)...)
	wantBytes(t, "n = 4\nl: nop\n.align n + l\nbrk", 0, 0xea, 0, 0, 0, 0)
	wantBytes(t, "* = 6\n.align *\nnop", 6, 0xea)
	wantValue(t, "* = 65535\n.align 65535\nl:", "l", 65535)
	wantFault(t, "* = 65536\n.align 65535", 1, api.ErrOver)
	wantFault(t, "* = 65536\n.align 3", 1, api.ErrOver)
	for _, n := range []string{"0", "-1", "65537", "$ffffffff", "*"} {
		wantFault(t, ".align "+n, 0, api.ErrRange)
	}
	wantFault(t, ".align none", 0, api.ErrUndefined)
	wantFault(t, ".align l\nl = 4", 0, api.ErrUndefined)
	wantFault(t, ".align 1/0", 0, api.ErrZero)
	for _, rest := range []string{"", "1, 2", "1,", ",", `"a"`, "1 2"} {
		wantFault(t, ".align "+rest, 0, api.ErrSyntax)
	}
}

// P1902: the place may be 65536, and no more; nor may the lines have more than 65536 bytes together, wherever they stand.
func TestTooManyBytes(t *testing.T) {
	wantBytes(t, "* = 65535\nnop", 65535, 0xea)
	wantBytes(t, "* = 65533\nlda 300\nl:", 65533, 0xad, 44, 1)
	wantFault(t, "* = 65534\nlda 300", 1, api.ErrOver)
	wantFault(t, "* = 65536\nnop", 1, api.ErrOver)
	wantFault(t, "* = 65535\n.byte 1, 2", 1, api.ErrOver)
	wantBytes(t, "* = 65534\n.word 1", 65534, 1, 0)
	wantFault(t, "* = 65535\n.word 1", 1, api.ErrOver)
	wantBytes(t, "* = 65534\n.byte \"ab\"", 65534, 'a', 'b')
	wantFault(t, "* = 65534\n.byte \"abc\"", 1, api.ErrOver)
	wantBytes(t, "* = 65536\n.byte \"\"", 0)
	wantFault(t, "* = 65536\n.res 1", 1, api.ErrOver)
	wantFault(t, "* = 65535\nnop\nnop", 2, api.ErrOver)
	wantFault(t, "* = $8000\n.res $8000\n* = 0\n.res $8000\n* = 65536\n.res 1", 5, api.ErrOver)

	whole := "* = $8000\n.res $8000, 1\n* = 0\n.res $7fff, 2\n"
	if l := assembled(t, whole+"nop"); len(l.Segments) != 1 || len(l.Segments[0].Bytes) != 65536 {
		t.Errorf("%d segments", len(l.Segments))
	}
	wantFault(t, whole+"nop\n* = 5\nnop", 6, api.ErrOver)          // 65537 bytes, in the first walk
	wantFault(t, whole+"nop\n* = 5\nnop\nfoo foo", 6, api.ErrOver) // which therefore ends there
	wantFault(t, whole+"nop\n* = 5\n.byte \"\"\nfoo foo", 7, api.ErrOp)
	wantFault(t, "lda none\n* = 0\n.res 65534", 2, api.ErrOver) // 65537 together, in the first walk
	wantFault(t, "lda none\n* = 0\n.res 65533", 0, api.ErrUndefined)
}

// P1902: which of two errors of one line the first walk tells.
func TestFirstErrorOfALine(t *testing.T) {
	wantFault(t, "l:\nl: sta #1", 1, api.ErrTwice)
	wantFault(t, "l:\nl: ?", 1, api.ErrToken)
	wantFault(t, "l:\nl: foo", 1, api.ErrOp)
	wantFault(t, "l:\nl: 5", 1, api.ErrLine)
	wantFault(t, "l:\nl: .byte", 1, api.ErrTwice)
	wantFault(t, "l:\nl: * = 65537", 1, api.ErrTwice)
	wantFault(t, "* = 65536\nnop )", 1, api.ErrMode)
	wantFault(t, "* = 65536\nsta #1", 1, api.ErrMode)
	wantFault(t, "* = 65536\nlda )", 1, api.ErrSyntax)
	wantFault(t, "* = 65536\nlda none", 1, api.ErrOver)
	wantFault(t, "sta #)", 0, api.ErrMode) // the mode is asked ahead of the expression
	wantFault(t, "sta #none", 0, api.ErrMode)
	wantFault(t, "lda #)", 0, api.ErrSyntax)
	wantFault(t, "lda #", 0, api.ErrMode)
}
