package lexer_test

import (
	"slices"
	"strings"
	"testing"

	"orrery/api"
	"orrery/lexer"
)

type tokens = []lexer.Token

func name(at int, told string) lexer.Token {
	return lexer.Token{Kind: lexer.Name, Text: told, At: at}
}

func number(at int, told string, value int) lexer.Token {
	return lexer.Token{Kind: lexer.Number, Text: told, Value: value, At: at}
}

func char(at int, told string, value int) lexer.Token {
	return lexer.Token{Kind: lexer.Char, Text: told, Value: value, At: at}
}

func text(at int, means string) lexer.Token {
	return lexer.Token{Kind: lexer.Text, Text: means, At: at}
}

func mark(at int, told string) lexer.Token {
	return lexer.Token{Kind: lexer.Mark, Text: told, At: at}
}

func wantTokens(t *testing.T, line string, want ...lexer.Token) {
	t.Helper()
	if got, at, e := lexer.Lex(line); !slices.Equal(got, want) || at != 0 || e != api.OK {
		t.Errorf("Lex(%q) = %+v, %d, %v, not %+v", line, got, at, e, want)
	}
}

func wantFault(t *testing.T, line string, at int, e api.Errno) {
	t.Helper()
	if list, gotAt, gotE := lexer.Lex(line); len(list) > 0 || gotAt != at || gotE != e {
		t.Errorf("Lex(%q) = %+v, %d, %v, not %d, %v", line, list, gotAt, gotE, at, e)
	}
}

func wantText(t *testing.T, what, got, want string) {
	t.Helper()
	if got != want {
		t.Errorf("%s = %q, not %q", what, got, want)
	}
}

func TestKindsAreCounted(t *testing.T) {
	if got := [5]int{lexer.Name, lexer.Number, lexer.Char, lexer.Text, lexer.Mark}; got != [5]int{1, 2, 3, 4, 5} {
		t.Errorf("the kinds are %v", got)
	}
}

// P1501, the chapter's examples.
func TestExamplesOfLines(t *testing.T) {
	wantTokens(t, "loop: lda #$0F ; go", name(0, "loop"), mark(4, ":"), name(6, "lda"), mark(10, "#"), number(11, "$0F", 15))
	wantTokens(t, "a<<2", name(0, "a"), mark(1, "<<"), number(3, "2", 2))
	wantTokens(t, `'\n'`, char(0, `'\n'`, 10))
	wantTokens(t, "%102", number(0, "%10", 2), number(3, "2", 2))
	wantFault(t, "a $", 3, api.ErrToken)
	wantFault(t, "?", 0, api.ErrToken)
	wantFault(t, "'ab'", 2, api.ErrToken)
	wantFault(t, "4294967296", 0, api.ErrRange)
	wantFault(t, `"a`, 2, api.ErrToken)
}

func TestLineOfNothing(t *testing.T) {
	for _, line := range []string{"", " ", "\t", "\r", " \t\r \r\t ", ";", " ;", ";a b c", "\t; $ ' \" ?", ";\x00\n\xff\x7fé;;"} {
		wantTokens(t, line)
	}
	for n := range 256 {
		wantTokens(t, strings.Repeat(" ", n))
	}
}

// The length is told ahead of all else, whatever the line has.
func TestLineOfMostBytes(t *testing.T) {
	long := strings.Repeat("a", api.MaxLine)
	wantTokens(t, long, name(0, long))
	wantFault(t, long+"a", api.MaxLine, api.ErrBig)
	for _, piece := range []string{" ", ";", "?", "$", "'", `"`, "9", "\xff", "é"} {
		wantFault(t, strings.Repeat(piece, 256), api.MaxLine, api.ErrBig)
		wantFault(t, strings.Repeat(piece, 5000), api.MaxLine, api.ErrBig)
	}
	quoted := `"` + strings.Repeat("é", 126) + `"`
	wantTokens(t, " "+quoted, text(1, strings.Repeat("é", 126)))
	wantFault(t, "  "+quoted, api.MaxLine, api.ErrBig)
	var all tokens
	for at := range api.MaxLine {
		all = append(all, mark(at, "*"))
	}
	wantTokens(t, strings.Repeat("*", api.MaxLine), all...)
	wantFault(t, strings.Repeat(" ", 254)+"$", 255, api.ErrToken)
	wantFault(t, strings.Repeat(" ", 254)+"?", 254, api.ErrToken)
}

// Just three bytes are blanks: no other one parts tokens, and none is needed where a token can not go on.
func TestBlanks(t *testing.T) {
	for b := range 256 {
		line := "a" + string([]byte{byte(b)}) + "b"
		switch b {
		case ' ', '\t', '\r':
			wantTokens(t, line, name(0, "a"), name(2, "b"))
		case 0, '\n', '\v', '\f', 0x1f, 0x7f, 0x80, 0x85, 0xa0, 0xff:
			wantFault(t, line, 1, api.ErrToken)
		}
	}
	wantFault(t, "a\u00a0b", 1, api.ErrToken)
	wantFault(t, "a\u2028b", 1, api.ErrToken)
	wantTokens(t, "\r a\t\t1\r", name(2, "a"), number(5, "1", 1))
	wantTokens(t, "1a", number(0, "1", 1), name(1, "a"))
	wantTokens(t, `a"b"'c'$d%1@7(e`, name(0, "a"), text(1, "b"), char(4, "'c'", 'c'), number(7, "$d", 13), number(9, "%1", 1), number(11, "@7", 7), mark(13, "("), name(14, "e"))
}

func TestRemarks(t *testing.T) {
	wantTokens(t, ";a")
	wantTokens(t, "a;b", name(0, "a"))
	wantTokens(t, "1;2", number(0, "1", 1))
	wantTokens(t, "<;<", mark(0, "<"))
	wantTokens(t, "'a';'", char(0, "'a'", 'a'))
	wantTokens(t, `"a";"`, text(0, "a"))
	wantTokens(t, "';' a", char(0, "';'", ';'), name(4, "a"))
	wantTokens(t, `";" a`, text(0, ";"), name(4, "a"))
	wantTokens(t, `"a;b;" 1 ; "`, text(0, "a;b;"), number(7, "1", 1))
	wantFault(t, "$;", 1, api.ErrToken)
	wantFault(t, "'a;", 2, api.ErrToken)
	wantFault(t, "';;'", 2, api.ErrToken)
	wantFault(t, `"a;`, 3, api.ErrToken)
	wantFault(t, "? ;", 0, api.ErrToken)
}

// Each byte by itself: what begins a token, what none, and the place that is told.
func TestEachByteByItself(t *testing.T) {
	for b := range 256 {
		line := string([]byte{byte(b)})
		switch {
		case strings.Contains("ABCDEFGHIJKLMNOPQRSTUVWXYZabcdefghijklmnopqrstuvwxyz_.", line):
			wantTokens(t, line, name(0, line))
		case strings.Contains("0123456789", line):
			wantTokens(t, line, number(0, line, b-'0'))
		case strings.Contains(",#():=+-*/&|^~<>!", line):
			wantTokens(t, line, mark(0, line))
		case strings.Contains(" \t\r;", line):
			wantTokens(t, line)
		case strings.Contains("$%@'\"", line):
			wantFault(t, line, 1, api.ErrToken)
			wantFault(t, "a "+line, 3, api.ErrToken)
		default:
			wantFault(t, line, 0, api.ErrToken)
			wantFault(t, "a "+line, 2, api.ErrToken)
			wantFault(t, "a"+line+"b", 1, api.ErrToken)
		}
	}
}

func TestNames(t *testing.T) {
	for _, told := range []string{"a", "Z", "_", ".", "..", "._", "a1", "_0", ".0", ".byte", "L1000", "x.y_z9", "a0b1c2", "zZ09_.", "A"} {
		wantTokens(t, told, name(0, told))
		wantTokens(t, " "+told+" "+told+":", name(1, told), name(len(told)+2, told), mark(2*len(told)+2, ":"))
	}
	wantTokens(t, "0x1F", number(0, "0", 0), name(1, "x1F"))
	wantTokens(t, "9.9", number(0, "9", 9), name(1, ".9"))
	wantTokens(t, "1_0", number(0, "1", 1), name(1, "_0"))
	wantTokens(t, "a-b", name(0, "a"), mark(1, "-"), name(2, "b"))
	wantFault(t, "é", 0, api.ErrToken)
	wantFault(t, "aé", 1, api.ErrToken)
	wantFault(t, "a\u212a", 1, api.ErrToken) // a sign that other rules count among the letters
	wantFault(t, "a\u0661", 1, api.ErrToken) // and one among the digits
}

// The longest of two marks, from the left on.
func TestMarks(t *testing.T) {
	for _, c := range []struct{ line, told string }{
		{"<<", "<<"}, {">>", ">>"}, {"<", "<"}, {">", ">"}, {"<<<", "<< <"}, {">>>", ">> >"}, {"<<<<", "<< <<"}, {"<<>>", "<< >>"},
		{"<>", "< >"}, {"><", "> <"}, {"<><", "< > <"}, {"<=", "< ="}, {"==", "= ="}, {"++", "+ +"}, {"--", "- -"}, {"&&", "& &"},
		{"||", "| |"}, {"!=", "! ="}, {"**", "* *"}, {"//", "/ /"}, {"((", "( ("}, {"::", ": :"}, {"!!~~^^##,,))", "! ! ~ ~ ^ ^ # # , , ) )"},
	} {
		var want tokens
		at := 0
		for told := range strings.FieldsSeq(c.told) {
			want = append(want, mark(at, told))
			at += len(told)
		}
		wantTokens(t, c.line, want...)
	}
	wantTokens(t, "< <", mark(0, "<"), mark(2, "<"))
	wantTokens(t, "<\t<<", mark(0, "<"), mark(2, "<<"))
}

func TestNumbersOfEachKind(t *testing.T) {
	for _, c := range []struct {
		told  string
		value int
	}{
		{"0", 0}, {"7", 7}, {"8", 8}, {"9", 9}, {"1234567890", 1234567890}, {"65536", 65536},
		{"$0", 0}, {"$9", 9}, {"$a", 10}, {"$f", 15}, {"$A", 10}, {"$F", 15}, {"$0123456", 0x123456}, {"$789abcd", 0x789abcd}, {"$efABCDEF", 0xefabcdef}, {"$aBcD", 0xabcd},
		{"%0", 0}, {"%1", 1}, {"%10", 2}, {"%11110000", 240}, {"@0", 0}, {"@7", 7}, {"@10", 8}, {"@1234567", 0o1234567},
		{"4294967295", 4294967295}, {"$ffffffff", 4294967295}, {"$FFFFFFFF", 4294967295}, {"@37777777777", 4294967295}, {"%" + strings.Repeat("1", 32), 4294967295},
		{"4294967294", 4294967294}, {"$fffffffe", 4294967294}, {"%1" + strings.Repeat("0", 31), 1 << 31}, {"@20000000000", 1 << 31},
	} {
		wantTokens(t, c.told, number(0, c.told, c.value))
		wantTokens(t, "#"+c.told+",", mark(0, "#"), number(1, c.told, c.value), mark(len(c.told)+1, ","))
		at := 0
		if strings.ContainsAny(c.told[:1], "$%@") {
			at = 1
		}
		zeros := c.told[:at] + strings.Repeat("0", api.MaxLine-len(c.told)) + c.told[at:]
		wantTokens(t, zeros, number(0, zeros, c.value))
	}
	wantTokens(t, "@178", number(0, "@17", 15), number(3, "8", 8))
	wantTokens(t, "$1fg", number(0, "$1f", 31), name(3, "g"))
	wantTokens(t, "%1a", number(0, "%1", 1), name(2, "a"))
	wantTokens(t, "12$a%1@7", number(0, "12", 12), number(2, "$a", 10), number(4, "%1", 1), number(6, "@7", 7))
}

func TestNumbersTooGreat(t *testing.T) {
	for _, told := range []string{
		"4294967296", "4294967300", "42949672950", "$100000000", "$ffffffff0", "@40000000000", "%1" + strings.Repeat("0", 32),
		"18446744073709551616", "18446744073709551617", "$10000000000000000", "$10000000000000001", "@2000000000000000000001",
		strings.Repeat("9", 200), "$" + strings.Repeat("f", 200), "@" + strings.Repeat("7", 200), "%" + strings.Repeat("1", 200),
		"%1" + strings.Repeat("0", 64), "$1" + strings.Repeat("0", 64), "@1" + strings.Repeat("0", 64), "1" + strings.Repeat("0", 64),
		"0004294967296", "$00100000000",
	} {
		wantFault(t, told, 0, api.ErrRange)
		wantFault(t, " a "+told+" b", 3, api.ErrRange)
	}
}

func TestNumbersWithoutDigits(t *testing.T) {
	for _, c := range []struct{ sign, others string }{
		{"$", "g G z _ . $ % @ ' \" ; , ? - \\ \xff \x00"}, {"%", "2 9 a z $ % @ ;"}, {"@", "8 9 a z $ % @ ;"},
	} {
		wantFault(t, c.sign, 1, api.ErrToken)
		wantFault(t, c.sign+" 1", 1, api.ErrToken)
		wantFault(t, "a,"+c.sign, 3, api.ErrToken)
		for other := range strings.SplitSeq(c.others, " ") {
			wantFault(t, c.sign+other, 1, api.ErrToken)
			wantFault(t, "ab "+c.sign+other+"1", 4, api.ErrToken)
		}
	}
	wantFault(t, "$é", 1, api.ErrToken)
	wantFault(t, "$\u0661", 1, api.ErrToken)
}

// The first fault from the left is told, of whichever kind it is.
func TestFirstFaultIsTold(t *testing.T) {
	wantFault(t, "4294967296 $", 0, api.ErrRange)
	wantFault(t, "4294967296?", 0, api.ErrRange)
	wantFault(t, "4294967296 4294967296", 0, api.ErrRange)
	wantFault(t, "? 4294967296", 0, api.ErrToken)
	wantFault(t, "$ 4294967296", 1, api.ErrToken)
	wantFault(t, "'ab' 4294967296", 2, api.ErrToken)
	wantFault(t, `"\q" ?`, 2, api.ErrToken)
	wantFault(t, "4294967296;?", 0, api.ErrRange)
	wantTokens(t, "1;4294967296 ?", number(0, "1", 1))
	wantTokens(t, `"4294967296"`, text(0, "4294967296"))
	wantTokens(t, "a4294967296", name(0, "a4294967296"))
}
