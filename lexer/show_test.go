package lexer_test

import (
	"math"
	"math/rand"
	"strings"
	"testing"

	"orrery/api"
	"orrery/lexer"
)

func wantShow(t *testing.T, list tokens, want string) {
	t.Helper()
	if got, e := lexer.Show(list); got != want || e != api.OK {
		t.Errorf("Show(%+v) = %q, %v, not %q", list, got, e, want)
	}
}

func wantNoShow(t *testing.T, list ...lexer.Token) {
	t.Helper()
	if got, e := lexer.Show(list); got != "" || e != api.ErrArg {
		t.Errorf("Show(%+v) = %q, %v, not %v", list, got, e, api.ErrArg)
	}
}

// wantBack: P1506, the tokens of Show are those that were told, whatever their places.
func wantBack(t *testing.T, list tokens) {
	t.Helper()
	line, e := lexer.Show(list)
	if e != api.OK {
		t.Errorf("Show(%+v) = %v", list, e)
	}
	back, _, e := lexer.Lex(line)
	if e != api.OK || !lexer.Same(back, list) || !lexer.Same(list, back) {
		t.Errorf("Lex(%q) = %+v, %v, not %+v", line, back, e, list)
	}
}

// P1502
func TestShow(t *testing.T) {
	wantShow(t, nil, "")
	wantShow(t, tokens{}, "")
	wantShow(t, tokens{name(0, "loop"), mark(4, ":"), name(6, "lda"), mark(10, "#"), number(11, "$0F", 15)}, "loop : lda # $0F")
	wantShow(t, tokens{mark(0, "<"), mark(0, "<")}, "< <")
	wantShow(t, tokens{mark(0, "<<"), mark(0, "<")}, "<< <")
	wantShow(t, tokens{number(0, "%10", 2), number(0, "2", 2)}, "%10 2")
	wantShow(t, tokens{number(0, "007", 7)}, "007")
	wantShow(t, tokens{char(0, `'\x41'`, 65), char(0, "'A'", 65), char(0, `'\''`, 39), char(0, "';'", 59)}, `'\x41' 'A' '\'' ';'`)
	wantShow(t, tokens{text(0, ""), text(0, "a\"\n\xff"), text(0, ";"), text(0, "é")}, `"" "a\"\x0a\xff" ";" "é"`)
	wantShow(t, tokens{name(-5, "a"), name(math.MaxInt, "a"), name(math.MinInt, "b")}, "a a b")
}

func TestShowOfEachToken(t *testing.T) {
	for _, told := range []string{"a", "_", ".x9", "0", "9", "$a", "$A", "%0", "@7", "4294967295", "' '", `'"'`, `'\0'`, `'\xFF'`} {
		list, _, _ := lexer.Lex("   " + told)
		wantShow(t, list, told)
		wantBack(t, list)
	}
	for told := range strings.FieldsSeq("<< >> , # ( ) : = + - * / & | ^ ~ < > !") {
		wantShow(t, tokens{mark(0, told), mark(0, told)}, told+" "+told)
		wantBack(t, tokens{mark(0, told), mark(0, told), mark(0, "<")})
	}
}

// A line of MaxLine bytes, and of one more, of one token and of several.
func TestShowOfMostBytes(t *testing.T) {
	long := strings.Repeat("a", api.MaxLine)
	wantShow(t, tokens{name(0, long)}, long)
	wantNoShow(t, name(0, long+"a"))
	wantNoShow(t, name(0, strings.Repeat("a", 100000)))
	wantNoShow(t, name(0, long), name(0, "b"))
	wantNoShow(t, name(0, "b"), name(0, long))
	wantShow(t, tokens{name(0, long[:253]), mark(0, "*")}, long[:253]+" *")
	wantNoShow(t, name(0, long[:254]), mark(0, "*"))
	wantNoShow(t, name(0, long[:253]), mark(0, "*"), mark(0, "*"))
	wantShow(t, tokens{text(0, long[:253])}, `"`+long[:253]+`"`)
	wantNoShow(t, text(0, long[:254]))
	wantShow(t, tokens{text(0, strings.Repeat("\x00", 63)+"a")}, `"`+strings.Repeat(`\x00`, 63)+`a"`)
	wantNoShow(t, text(0, strings.Repeat("\x00", 64)))
	wantShow(t, tokens{text(0, strings.Repeat(`"`, 126))}, `"`+strings.Repeat(`\"`, 126)+`"`)
	wantNoShow(t, text(0, strings.Repeat(`"`, 127)))
	var marks tokens
	for range 128 {
		marks = append(marks, mark(0, "*"))
	}
	wantShow(t, marks, strings.TrimSuffix(strings.Repeat("* ", 128), " "))
	wantNoShow(t, append(marks, mark(0, "*"))...)
	for range 12 {
		marks = append(marks, marks...)
	}
	wantNoShow(t, marks...)
	wantBack(t, tokens{name(0, long[:253]), mark(0, "*")})
}

// Tokens that are none: at each place among those that are some.
func TestShowOfNoTokens(t *testing.T) {
	for _, none := range []lexer.Token{
		{}, {Kind: 0, Text: "a"}, {Kind: 6, Text: "a"}, {Kind: -1, Text: "a"}, {Kind: math.MaxInt, Text: "a"}, {Kind: 6, Text: ";"}, {Kind: 0, Text: " "}, {Kind: 6},
		{Kind: lexer.Name}, {Kind: lexer.Number}, {Kind: lexer.Char}, {Kind: lexer.Mark},
		name(0, "1"), name(0, "a b"), name(0, "a,"), name(0, " a"), name(0, "a "), name(0, "a;"), name(0, "a\n"), name(0, "é"), name(0, "$a"), name(0, "'a'"), name(0, `"a"`), name(0, "?"), name(0, "a-b"), name(0, ";"),
		number(0, "a", 0), number(0, "12", 13), number(0, "12", 0), number(0, "$", 0), number(0, "$12", 12), number(0, "12 ", 12), number(0, "%102", 2), number(0, "4294967296", 4294967296), number(0, "4294967296", 0), number(0, "-1", -1), number(0, "0x1", 1), number(0, "1", -1), number(0, "0", 1<<32),
		char(0, "a", 'a'), char(0, "'a'", 'b'), char(0, "'a'", 0), char(0, "'a'", 'a'+256), char(0, "'ab'", 'a'), char(0, "''", 0), char(0, "'a", 'a'), char(0, `'\n'`, 'n'), char(0, "'a' ", 'a'), char(0, `"a"`, 'a'), char(0, "'a''a'", 'a'),
		{Kind: lexer.Text, Text: "a", Value: 1}, {Kind: lexer.Text, Value: 97}, {Kind: lexer.Text, Text: "a", Value: -1},
		{Kind: lexer.Name, Text: "a", Value: 1}, {Kind: lexer.Mark, Text: ",", Value: 1}, {Kind: lexer.Mark, Text: ",", Value: 44},
		mark(0, ""), mark(0, "<<<"), mark(0, "<>"), mark(0, ",,"), mark(0, "< "), mark(0, ";"), mark(0, "a"), mark(0, "."), mark(0, "?"), mark(0, "$"), mark(0, "'"), mark(0, `"`), mark(0, "=="),
	} {
		wantNoShow(t, none)
		wantNoShow(t, none, name(0, "a"))
		wantNoShow(t, name(0, "a"), none)
		wantNoShow(t, mark(0, "<"), none, mark(0, "<"))
	}
	for _, right := range []lexer.Token{name(0, "a"), number(0, "$10", 16), char(0, "'a'", 97), mark(0, "*")} {
		for kind := -1; kind < 8; kind++ {
			other := right
			other.Kind = kind
			if kind != right.Kind && (kind != lexer.Text || right.Value != 0) {
				wantNoShow(t, other)
			}
		}
	}
	wantShow(t, tokens{{Kind: lexer.Text, Text: "a b;"}}, `"a b;"`) // a Text may mean what other tokens are told as
}

// P1503
func TestSame(t *testing.T) {
	list := tokens{name(0, "a"), mark(1, "<<"), number(3, "2", 2), char(5, "'a'", 97), text(9, "a")}
	same := func(a, b tokens, want bool) {
		t.Helper()
		if lexer.Same(a, b) != want || lexer.Same(b, a) != want {
			t.Errorf("Same(%+v, %+v) is not %v", a, b, want)
		}
	}
	changed := func(n int, change func(*lexer.Token)) tokens {
		other := append(tokens{}, list...)
		change(&other[n])
		return other
	}
	same(nil, nil, true)
	same(nil, tokens{}, true)
	same(list, list, true)
	same(nil, list, false)
	same(tokens{{}}, nil, false)
	for n := range list {
		same(list, list[:n], false)
		same(list, list[n+1:], false)
		same(list, append(append(tokens{}, list[:n]...), list[n+1:]...), false)
		same(list, append(append(tokens{}, list...), list[n]), false)
		same(list, changed(n, func(x *lexer.Token) {}), true)
		same(list, changed(n, func(x *lexer.Token) { x.At += 7 }), true)
		same(list, changed(n, func(x *lexer.Token) { x.At = -1 }), true)
		same(list, changed(n, func(x *lexer.Token) { x.Kind++ }), false)
		same(list, changed(n, func(x *lexer.Token) { x.Value++ }), false)
		same(list, changed(n, func(x *lexer.Token) { x.Value += 256 }), false)
		same(list, changed(n, func(x *lexer.Token) { x.Text += "b" }), false)
		same(list, changed(n, func(x *lexer.Token) { x.Text = x.Text[1:] }), false)
	}
	same(tokens{name(0, "a")}, tokens{name(0, "A")}, false)
	same(tokens{number(0, "$a", 10)}, tokens{number(0, "$A", 10)}, false)
	same(tokens{number(0, "2", 2)}, tokens{number(0, "02", 2)}, false)
	same(tokens{name(0, "a"), name(0, "b")}, tokens{name(0, "b"), name(0, "a")}, false)
	same(tokens{{Kind: 77, Text: "?", Value: -4}}, tokens{{Kind: 77, Text: "?", Value: -4, At: 3}}, true) // be they none
}

// P1506: of any line that has tokens, if these fit with their blanks.
func TestThereAndBack(t *testing.T) {
	r := rand.New(rand.NewSource(16))
	shown := 0
	for range 60000 {
		list, _, e := lexer.Lex(randomLine(r))
		if e != api.OK {
			continue
		}
		size := len(list) - 1
		for _, token := range list {
			if token.Kind == lexer.Text {
				size += len(lexer.Quote(token.Text))
			} else {
				size += len(token.Text)
			}
		}
		if size > api.MaxLine {
			wantNoShow(t, list...)
			continue
		}
		shown++
		wantBack(t, list)
		line, _ := lexer.Show(list)
		again, _, _ := lexer.Lex(line)
		wantShow(t, again, line)
	}
	if shown < 1000 {
		t.Errorf("only %d lines were shown", shown)
	}
}
