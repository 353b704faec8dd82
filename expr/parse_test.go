package expr_test

import (
	"math"
	"slices"
	"strings"
	"testing"

	"orrery/api"
	"orrery/expr"
	"orrery/lexer"
	"orrery/lr"
)

// marks: all that are symbols of expressions, in order of the terminals.
var marks = []string{"|", "^", "&", "<<", ">>", "+", "-", "*", "/", "<", ">", "~", "!", "(", ")"}

// symbolsOf: the tokens by the numbers of the chapter's terminals.
func symbolsOf(t testing.TB, list tokens) []int {
	t.Helper()
	g := chapters(t)
	var all []int
	for _, token := range list {
		terminal := token.Text
		switch {
		case token.Kind == lexer.Number || token.Kind == lexer.Char:
			terminal = "number"
		case token.Kind == lexer.Name:
			terminal = "name"
		case terminal == "|":
			terminal = "or"
		}
		symbol, found := g.Find(terminal)
		if !found {
			t.Fatalf("%v is none", token)
		}
		all = append(all, symbol)
	}
	return all
}

// F16.2: how many tokens there may be, and that this is asked ahead of what they are.
func TestMostTokens(t *testing.T) {
	var sum, bad tokens
	for len(sum) < api.MaxLine {
		sum = append(sum, number(1), mark("+"))
	}
	for len(bad) <= api.MaxLine {
		bad = append(bad, lexer.Token{})
	}
	full := treeOf(t, sum[:api.MaxLine])
	wantEval(t, full, nil, 0, 128, api.OK)
	if len(full.Rules()) != 128*2+127 {
		t.Errorf("%d rules", len(full.Rules()))
	}
	wantFault(t, sum[:api.MaxLine+1], 0, api.ErrBig)
	wantFault(t, append(slices.Clone(sum[:api.MaxLine]), mark("+"), number(1)), 0, api.ErrBig)
	wantFault(t, sum[:api.MaxLine-1], api.MaxLine-1, api.ErrSyntax)
	wantFault(t, bad, 0, api.ErrBig)
	wantFault(t, slices.Repeat(bad, 20), 0, api.ErrBig)
	wantFault(t, bad[:api.MaxLine], 0, api.ErrSyntax)
	minus := append(slices.Repeat(tokens{mark("-")}, api.MaxLine-1), number(3))
	wantEval(t, treeOf(t, minus), nil, 0, 3, api.OK)
	wantFault(t, append(tokens{mark("-")}, minus...), 0, api.ErrBig)
	low := append(slices.Repeat(tokens{mark("<")}, api.MaxLine-1), number(0x1ff))
	wantEval(t, treeOf(t, low), nil, 0, 0xff, api.OK)
}

func TestNoTokens(t *testing.T) {
	wantFault(t, nil, 0, api.ErrSyntax)
	wantFault(t, tokens{}, 0, api.ErrSyntax)
}

// F16.2: which tokens are symbols, whatever else stands in them.
func TestTokensOfEachKind(t *testing.T) {
	for _, told := range []string{"", "a", "or", "|", "number", "$", "E", "é\xff", "A.b_9"} {
		wantText(t, tokens{{Kind: lexer.Number, Text: told, Value: 12}}, "12")
		wantText(t, tokens{{Kind: lexer.Char, Text: told, Value: 34}}, "34")
		one := treeOf(t, tokens{{Kind: lexer.Name, Text: told, Value: 56}})
		wantList(t, "Names", one.Names(), told)
		wantEval(t, one, names{told: 78}, 0, 78, api.OK)
	}
	wantFault(t, tokens{{Kind: lexer.Text, Text: "a"}}, 0, api.ErrSyntax)
	wantFault(t, tokens{{Kind: lexer.Text, Text: "*"}}, 0, api.ErrSyntax)
	for _, kind := range []int{0, 6, 7, -1, -5, 16, 256 + lexer.Number, 1<<32 + lexer.Name, math.MinInt, math.MaxInt} {
		for _, told := range []string{"", "1", "a", "*", "("} {
			wantFault(t, tokens{{Kind: kind, Text: told, Value: 1}}, 0, api.ErrSyntax)
			wantFault(t, tokens{number(1), mark("+"), {Kind: kind, Text: told}}, 2, api.ErrSyntax)
		}
	}
}

// F16.2: a Mark by the name of another symbol of the grammar is none, and neither are the lexer's others.
func TestMarksThatAreNone(t *testing.T) {
	for _, told := range []string{",", "#", ":", "=", "", " ", "or", "number", "name", "$", "E", "U", "->", "**", "<<<", "> >", "||", "&&", "==", "- ", "\x00", "1", "a", "'", "<=", "[", "]"} {
		wantFault(t, tokens{mark(told)}, 0, api.ErrSyntax)
		wantFault(t, tokens{number(1), mark(told), number(2)}, 1, api.ErrSyntax)
		wantFault(t, tokens{mark(told), number(2)}, 0, api.ErrSyntax)
		wantFault(t, tokens{mark("("), number(2), mark(told)}, 2, api.ErrSyntax)
		wantFault(t, tokens{number(2), mark(told)}, 1, api.ErrSyntax)
	}
	for _, told := range marks {
		list := tokens{number(6), mark(told), number(2)}
		if _, at, e := expr.Parse(list); slices.Contains([]string{"~", "!", "<", ">", "(", ")"}, told) != (e == api.ErrSyntax && at == 1) {
			t.Errorf("6 %s 2: %d, %v", told, at, e)
		}
	}
}

// F16.2: what is no symbol is told ahead of what can not stand where it does.
func TestNoSymbolIsToldFirst(t *testing.T) {
	wantFault(t, tokens{mark(")"), number(1), mark("#")}, 2, api.ErrSyntax)
	wantFault(t, tokens{number(1), number(2), {Kind: lexer.Text}, mark(",")}, 2, api.ErrSyntax)
	wantFault(t, tokens{mark("+"), mark(","), {Kind: lexer.Text}}, 1, api.ErrSyntax)
	wantFault(t, tokens{mark("("), {Kind: 9}}, 1, api.ErrSyntax)
	wantFault(t, append(slices.Repeat(tokens{mark(")")}, api.MaxLine-1), mark("=")), api.MaxLine-1, api.ErrSyntax)
}

// F16.2: each place where a token can not stand, and the end.
func TestWhereTokensStand(t *testing.T) {
	for _, c := range []struct {
		text string
		at   int
	}{
		{"1 2", 1}, {"1 a", 1}, {"a 1", 1}, {"a b", 1}, {"1 (", 1}, {"1 ( 2 )", 1}, {"a ( b )", 1}, {"( 1 ) ( 2 )", 3}, {"( 1 ) 2", 3},
		{"1 ~ 2", 1}, {"1 ! 2", 1}, {"1 < 2", 1}, {"1 > 2", 1}, {"* a", 1}, {"* 1", 1}, {"* ( 1 )", 1}, {"* ~ 1", 1},
		{"|", 0}, {"^ 1", 0}, {"& 1", 0}, {"<< 1", 0}, {">> 1", 0}, {"/ 1", 0}, {")", 0}, {"( )", 1}, {"1 )", 1}, {"( 1 ) )", 3},
		{"1 + )", 2}, {"1 | |", 2}, {"1 + / 2", 2}, {"1 << >> 2", 2}, {"( & 1 )", 1}, {"( 1 + )", 3}, {"( 1 ( 2 ) )", 2},
		{"+ |", 1}, {"- )", 1}, {"~ /", 1}, {"! &", 1}, {"< |", 1}, {"> )", 1}, {"< < )", 2}, {"- - /", 2},
		{"- < 1", 1}, {"+ > 1", 1}, {"~ < 1", 1}, {"! > 1", 1}, {"1 + - < 2", 3}, {"( ~ > 1 )", 2},
		{"* * * *", 4}, {"* *", 2}, {"* * / *", 2}, {"* /", 2},
		{"+", 1}, {"-", 1}, {"~", 1}, {"!", 1}, {"<", 1}, {">", 1}, {"(", 1}, {"1 +", 2}, {"1 -", 2}, {"1 *", 2}, {"1 /", 2}, {"1 |", 2},
		{"1 ^", 2}, {"1 &", 2}, {"1 <<", 2}, {"1 >>", 2}, {"( 1", 2}, {"( ( 1 )", 4}, {"( 1 + 2", 4}, {"1 + <", 3}, {"( a * ( b )", 6},
	} {
		wantFault(t, lexed(t, c.text), c.at, api.ErrSyntax)
	}
	for _, text := range []string{"1", "a", "*", "( 1 )", "* * *", "* + *", "1 * *", "- *", "1 + < 2", "< > 1", "( < 1 ) + 2", "1 - - - 1", "~ ! + - 1", "1 + < ( > 2 )", "- ( < 1 )"} {
		treeOf(t, lexed(t, text))
	}
}

// F16.3: the rules of small trees by hand.
func TestRules(t *testing.T) {
	for _, c := range []struct {
		text  string
		rules []int
	}{
		{"1", []int{16, 11}}, {"'a'", []int{16, 11}}, {"a", []int{17, 11}}, {"*", []int{18, 11}}, {"(1)", []int{16, 11, 19, 11}},
		{"-1", []int{16, 12, 11}}, {"+1", []int{16, 13, 11}}, {"~1", []int{16, 14, 11}}, {"!1", []int{16, 15, 11}}, {"<1", []int{16, 11, 9}}, {">1", []int{16, 11, 10}},
		{"1|a", []int{16, 11, 17, 11, 0}}, {"1^a", []int{16, 11, 17, 11, 1}}, {"1&a", []int{16, 11, 17, 11, 2}}, {"1<<a", []int{16, 11, 17, 11, 3}}, {"1>>a", []int{16, 11, 17, 11, 4}},
		{"1+a", []int{16, 11, 17, 11, 5}}, {"1-a", []int{16, 11, 17, 11, 6}}, {"1*a", []int{16, 11, 17, 11, 7}}, {"1/a", []int{16, 11, 17, 11, 8}},
		{"1+2*3", []int{16, 11, 16, 11, 16, 11, 7, 5}}, {"1*2+3", []int{16, 11, 16, 11, 7, 16, 11, 5}}, {"***", []int{18, 11, 18, 11, 7}},
	} {
		wantList(t, c.text, tree(t, c.text).Rules(), c.rules...)
	}
}

// P5, F16.3: the rules are those of lr.Drive, and backwards a derivation of the tokens.
func TestRulesAreADerivation(t *testing.T) {
	g, table := chapters(t), expr.Table()
	for _, text := range []string{"1", "a+b*2", "<a-'b'|>*", "-(~*)<<!+3", "((1))/((a)>>2)^5&6", strings.Repeat("1-", 100) + "1", strings.Repeat("(", 100) + "a" + strings.Repeat(")", 100)} {
		list := lexed(t, text)
		rules := treeOf(t, list).Rules()
		driven, _, e := lr.Drive(table, symbolsOf(t, list))
		wantList(t, text, rules, driven...)
		slices.Reverse(rules)
		form, f := g.Replay(rules)
		wantList(t, text, form, symbolsOf(t, list)...)
		if e != api.OK || f != api.OK {
			t.Errorf("%s: %v, %v", text, e, f)
		}
	}
}
