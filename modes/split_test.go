package modes_test

import (
	"slices"
	"strings"
	"testing"

	"orrery/api"
	"orrery/lexer"
	"orrery/modes"
)

type tokens = []lexer.Token

func lex(t *testing.T, line string) tokens {
	t.Helper()
	list, _, e := lexer.Lex(line)
	if e != api.OK {
		t.Fatalf("Lex(%q): %v", line, e)
	}
	return list
}

// wantForm: the tokens split so that from, to of them are the expression.
func wantForm(t *testing.T, list tokens, kind, from, to int) {
	t.Helper()
	f, place, e := modes.Split(list)
	if f.Kind != kind || !slices.Equal(f.Expr, list[from:to]) || place != 0 || e != api.OK {
		t.Errorf("Split(%+v) = %+v, %d, %v, not the kind %d with the tokens %d to %d", list, f, place, e, kind, from, to)
	}
}

func wantNoForm(t *testing.T, list tokens, place int) {
	t.Helper()
	f, got, e := modes.Split(list)
	if f.Kind != 0 || len(f.Expr) != 0 || got != place || e != api.ErrMode {
		t.Errorf("Split(%+v) = %+v, %d, %v, not ErrMode at %d", list, f, got, e, place)
	}
}

// P1702: of each line the kind, and the tokens of the expression.
func TestSplit(t *testing.T) {
	for _, c := range []struct {
		line           string
		kind, from, to int
	}{
		{"", modes.None, 0, 0},
		{" \t ; nothing", modes.None, 0, 0},
		{"a", modes.OfA, 0, 0},
		{"A", modes.OfA, 0, 0},
		{"a a", modes.Plain, 0, 2},
		{"A 1", modes.Plain, 0, 2},
		{"a+1", modes.Plain, 0, 3},
		{"1+a", modes.Plain, 0, 3},
		{"a,", modes.Plain, 0, 2},
		{"a,x", modes.WithX, 0, 1},
		{"A,Y", modes.WithY, 0, 1},
		{"(a)", modes.Paren, 1, 2},
		{"#a", modes.Sharp, 1, 2},
		{"b", modes.Plain, 0, 1},
		{"x", modes.Plain, 0, 1},
		{"Y", modes.Plain, 0, 1},
		{"aa", modes.Plain, 0, 1},
		{"#1", modes.Sharp, 1, 2},
		{"#<1+2", modes.Sharp, 1, 5},
		{"##", modes.Sharp, 1, 2},
		{"#,x", modes.Sharp, 1, 3},
		{"#1,x", modes.Sharp, 1, 4},
		{"#(1)", modes.Sharp, 1, 4},
		{"#(1),y", modes.Sharp, 1, 6},
		{"1#", modes.Plain, 0, 2},
		{"(#)", modes.Paren, 1, 2},
		{"(#1,x)", modes.ParenX, 1, 3},
		{"($12),y", modes.ParenY, 1, 2},
		{"($12),Y", modes.ParenY, 1, 2},
		{"($12,x)", modes.ParenX, 1, 2},
		{"($12,X)", modes.ParenX, 1, 2},
		{"($1234)", modes.Paren, 1, 2},
		{"(1+2)", modes.Paren, 1, 4},
		{"(1+2)*3", modes.Plain, 0, 7},
		{"(1)(2)", modes.Plain, 0, 6},
		{"(1),x", modes.WithX, 0, 3},
		{"(1)+2,x", modes.WithX, 0, 5},
		{"(1)+2,y", modes.WithY, 0, 5},
		{"(1)y", modes.Plain, 0, 4},
		{"(1),", modes.Plain, 0, 4},
		{"(1),a", modes.Plain, 0, 5},
		{"(1),y,y", modes.WithY, 0, 5},
		{"(1),y,x", modes.WithX, 0, 5},
		{"(1),x,y", modes.WithY, 0, 5},
		{"(1),y+1", modes.Plain, 0, 7},
		{"(1),y)", modes.Plain, 0, 6},
		{"(1),(y)", modes.Plain, 0, 7},
		{"(1)),y", modes.WithY, 0, 4},
		{"(1,y)", modes.Paren, 1, 4},
		{"(1,x),y", modes.ParenY, 1, 4},
		{"(1,x),x", modes.WithX, 0, 5},
		{"(1,x)+1", modes.Plain, 0, 7},
		{"(1,x+1)", modes.Paren, 1, 6},
		{"(1,x,x)", modes.ParenX, 1, 4},
		{"(1,x,y)", modes.Paren, 1, 6},
		{"(1,y,x)", modes.ParenX, 1, 4},
		{"((1,x))", modes.Paren, 1, 6},
		{"((1),x)", modes.ParenX, 1, 4},
		{"((1,x),x)", modes.ParenX, 1, 6},
		{"((1),y)", modes.Paren, 1, 6},
		{"((1)),y", modes.ParenY, 1, 4},
		{"((1))", modes.Paren, 1, 4},
		{"((1)+(2))", modes.Paren, 1, 8},
		{"((1)+(2),x)", modes.ParenX, 1, 8},
		{"((1)+(2)),y", modes.ParenY, 1, 8},
		{"((1)+(2))+3", modes.Plain, 0, 11},
		{"(x)", modes.Paren, 1, 2},
		{"(x,x)", modes.ParenX, 1, 2},
		{"(,)", modes.Paren, 1, 2},
		{"(,y)", modes.Paren, 1, 3},
		{"(", modes.Plain, 0, 1},
		{"(1", modes.Plain, 0, 2},
		{"((1)", modes.Plain, 0, 4},
		{"(1,x", modes.WithX, 0, 2},
		{"((1),y", modes.WithY, 0, 4},
		{"((1,x)", modes.Plain, 0, 6},
		{"((,x)", modes.Plain, 0, 5},
		{")", modes.Plain, 0, 1},
		{")(", modes.Plain, 0, 2},
		{"),x", modes.WithX, 0, 1},
		{"1+(2)", modes.Plain, 0, 5},
		{"1+(2),y", modes.WithY, 0, 5},
		{"1,x", modes.WithX, 0, 1},
		{"1,X", modes.WithX, 0, 1},
		{"1,y", modes.WithY, 0, 1},
		{"1,Y", modes.WithY, 0, 1},
		{"a+1,X", modes.WithX, 0, 3},
		{"1,x,y", modes.WithY, 0, 3},
		{"1,y,x", modes.WithX, 0, 3},
		{",,x", modes.WithX, 0, 1},
		{"1,a", modes.Plain, 0, 3},
		{"1,xx", modes.Plain, 0, 3},
		{"1,x_", modes.Plain, 0, 3},
		{"1 x", modes.Plain, 0, 2},
		{"1,x 2", modes.Plain, 0, 4},
		{"x,y", modes.WithY, 0, 1},
		{",", modes.Plain, 0, 1},
		{"*", modes.Plain, 0, 1},
		{"-1", modes.Plain, 0, 2},
		{"'a'", modes.Plain, 0, 1},
		{`"a"`, modes.Plain, 0, 1},
		{"1,'x'", modes.Plain, 0, 3},
		{`1,"x"`, modes.Plain, 0, 3},
	} {
		t.Run(c.line, func(t *testing.T) { wantForm(t, lex(t, c.line), c.kind, c.from, c.to) })
	}
}

// P1702: where the expression should stand.
func TestSplitWithoutExpression(t *testing.T) {
	for line, place := range map[string]int{
		"#": 1, "()": 1, "(,x)": 1, "(,X)": 1, "(),y": 1, "(),Y": 1, ",x": 0, ",X": 0, ",y": 0, ",Y": 0,
	} {
		t.Run(line, func(t *testing.T) { wantNoForm(t, lex(t, line), place) })
	}
	wantForm(t, lex(t, "(),x"), modes.WithX, 0, 2)
	wantForm(t, lex(t, "()+1"), modes.Plain, 0, 4)
}

// The registers are Names, and the signs Marks: what has the same Text and is of another Kind is neither.
func TestSplitGoesByKinds(t *testing.T) {
	one := lexer.Token{Kind: lexer.Number, Text: "1", Value: 1}
	sign := func(text string) lexer.Token { return lexer.Token{Kind: lexer.Mark, Text: text} }
	open, shut, comma := sign("("), sign(")"), sign(",")
	named := func(kind int, text string) lexer.Token { return lexer.Token{Kind: kind, Text: text} }
	for _, kind := range []int{0, lexer.Number, lexer.Char, lexer.Text, lexer.Mark, 6, -1} {
		for _, text := range []string{"a", "A"} {
			wantForm(t, tokens{named(kind, text)}, modes.Plain, 0, 1)
		}
		for _, text := range []string{"x", "X"} {
			wantForm(t, tokens{one, comma, named(kind, text)}, modes.Plain, 0, 3)
			wantForm(t, tokens{comma, named(kind, text)}, modes.Plain, 0, 2)
			wantForm(t, tokens{open, one, comma, named(kind, text), shut}, modes.Paren, 1, 4)
		}
		for _, text := range []string{"y", "Y"} {
			wantForm(t, tokens{one, comma, named(kind, text)}, modes.Plain, 0, 3)
			wantForm(t, tokens{open, one, shut, comma, named(kind, text)}, modes.Plain, 0, 5)
		}
	}
	for _, kind := range []int{0, lexer.Name, lexer.Number, lexer.Char, lexer.Text, 6, -1} {
		wantForm(t, tokens{named(kind, "#")}, modes.Plain, 0, 1)
		wantForm(t, tokens{named(kind, "#"), one}, modes.Plain, 0, 2)
		wantForm(t, tokens{named(kind, "("), one, shut}, modes.Plain, 0, 3)
		wantForm(t, tokens{open, one, named(kind, ")")}, modes.Plain, 0, 3)
		wantForm(t, tokens{open, named(kind, "("), shut}, modes.Paren, 1, 2)
		wantForm(t, tokens{open, named(kind, ")"), shut}, modes.Paren, 1, 2)
		wantForm(t, tokens{open, one, shut, named(kind, ","), named(lexer.Name, "y")}, modes.Plain, 0, 5)
		wantForm(t, tokens{open, one, named(kind, ","), named(lexer.Name, "x"), shut}, modes.Paren, 1, 4)
		wantForm(t, tokens{one, named(kind, ","), named(lexer.Name, "x")}, modes.Plain, 0, 3)
		wantForm(t, tokens{one, named(kind, ","), named(lexer.Name, "y")}, modes.Plain, 0, 3)
	}
	for _, text := range []string{"", "##", "# ", "((", "(x", ",,"} {
		wantForm(t, tokens{sign(text), one, shut}, modes.Plain, 0, 3)
		wantForm(t, tokens{one, sign(text), named(lexer.Name, "x")}, modes.Plain, 0, 3)
	}
	for _, text := range []string{"", " x", "x ", "Xx", "\u00d7", "\u0425"} {
		wantForm(t, tokens{one, comma, named(lexer.Name, text)}, modes.Plain, 0, 3)
	}
}

// Value and At of the tokens are not asked, and are handed on.
func TestSplitHandsTokensOn(t *testing.T) {
	list := tokens{
		{Kind: lexer.Mark, Text: "(", Value: 5, At: -9},
		{Kind: 77, Text: "\xff", Value: -1, At: 1 << 30},
		{Kind: lexer.Mark, Text: ")", Value: 5, At: -9},
		{Kind: lexer.Mark, Text: ",", Value: 6},
		{Kind: lexer.Name, Text: "y", Value: 7, At: 2},
	}
	wantForm(t, list, modes.ParenY, 1, 2)
	wantForm(t, list[:3], modes.Paren, 1, 2)
	wantForm(t, list[1:2], modes.Plain, 0, 1)
}

func TestSplitOfManyTokens(t *testing.T) {
	const deep = 100000
	var list tokens
	for _, c := range strings.Repeat("(", deep) + "1" + strings.Repeat(")", deep) + ",y" {
		list = append(list, lexer.Token{Kind: lexer.Mark, Text: string(c)})
	}
	list[len(list)-1].Kind = lexer.Name
	wantForm(t, list, modes.ParenY, 1, 2*deep)
	wantForm(t, list[:2*deep+1], modes.Paren, 1, 2*deep)
	wantForm(t, list[1:], modes.WithY, 0, 2*deep)
	wantForm(t, list[:2*deep], modes.Plain, 0, 2*deep)
}
