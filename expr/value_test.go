package expr_test

import (
	"math"
	"strings"
	"testing"

	"orrery/api"
	"orrery/expr"
)

// F16.4: the errors of Lex, with their places, ahead of all that Parse would tell.
func TestValueTellsLex(t *testing.T) {
	for _, c := range []struct {
		text string
		at   int
		e    api.Errno
	}{
		{"?", 0, api.ErrToken}, {"1+?", 2, api.ErrToken}, {"1 + $", 5, api.ErrToken}, {"'ab'", 2, api.ErrToken}, {`1 "a`, 4, api.ErrToken}, {") ) ?", 4, api.ErrToken},
		{"4294967296", 0, api.ErrRange}, {"1/0+ 4294967296", 5, api.ErrRange}, {") 4294967296", 2, api.ErrRange}, {"1+\n", 2, api.ErrToken}, {"é", 0, api.ErrToken},
		{strings.Repeat("1", 256), 255, api.ErrBig}, {strings.Repeat(" ", 256), 255, api.ErrBig}, {strings.Repeat(")", 10000), 255, api.ErrBig}, {strings.Repeat(" ", 255) + "1", 255, api.ErrBig},
	} {
		wantValueFault(t, c.text, nil, 0, c.at, c.e)
		wantValueFault(t, c.text, nil, math.MaxInt, c.at, c.e)
	}
}

// F16.4: the place in the text of the token that Parse tells, or the text's end.
func TestValueTellsParse(t *testing.T) {
	for _, c := range []struct {
		text string
		at   int
	}{
		{"", 0}, {" ", 1}, {"   \t\r", 5}, {"; 1", 3}, {" ;", 2}, {"1+", 2}, {"1 + ", 4}, {"1+ ; go", 7}, {"( 2", 3}, {"(2 ", 3}, {"-", 1}, {" < ", 3}, {"**", 2},
		{"3 4", 2}, {"3   4", 4}, {"  3'a'", 3}, {"1 + + + )", 8}, {"a b", 2}, {"aaa bbb", 4}, {")", 0}, {"  )", 2}, {"1)", 1}, {"$10 <<  >> 3", 8}, {"- <1", 2}, {"a\t(b)", 2},
		{`"a"`, 0}, {`1+"a"`, 2}, {`) "a"`, 2}, {"1,2", 1}, {"1 2 #3", 4}, {"a=b", 1}, {"a:", 1}, {`1 2 "x" ,`, 4},
	} {
		wantValueFault(t, c.text, names{"a": 1, "b": 2}, 0, c.at, api.ErrSyntax)
		wantValueFault(t, c.text, nil, overMost, c.at, api.ErrSyntax)
	}
	wantValueFault(t, strings.Repeat("-", 255), nil, 0, 255, api.ErrSyntax)
	wantValueFault(t, strings.Repeat(" ", 254)+")", nil, 0, 254, api.ErrSyntax)
	wantValueFault(t, strings.Repeat(" ", 255), nil, 0, 255, api.ErrSyntax)
}

// F16.4: the errors of Eval have the place 0, wherever they come from.
func TestValueTellsEval(t *testing.T) {
	wantValueFault(t, "  1 + none", nil, 0, 0, api.ErrUndefined)
	wantValueFault(t, "  1 + a", names{"a": overMost}, 0, 0, api.ErrRange)
	wantValueFault(t, "1 + 2/0", nil, 0, 0, api.ErrZero)
	wantValueFault(t, "1 + *", nil, underLeast, 0, api.ErrRange)
	wantValueFault(t, "1 + (2<<32)", nil, 0, 0, api.ErrRange)
	wantValueFault(t, "$ffffffff + 1", nil, 0, 0, api.ErrRange)
}

func TestValues(t *testing.T) {
	have := names{"a": 5, "b": -3}
	wantValue(t, " a + b ; both", have, 0, 2)
	wantValue(t, "a*b", have, overMost, -15)
	wantValue(t, "*+1", nil, 65535, 65536)
	wantValue(t, "'0'", nil, 0, 48)
	wantValue(t, "-$80000000", nil, 0, least)
	wantValue(t, "4294967295", nil, 0, most)
	wantValue(t, strings.Repeat("(", 127)+"7"+strings.Repeat(")", 127), nil, 0, 7)
	wantValue(t, strings.Repeat(" ", 254)+"7", nil, 0, 7)
	wantValue(t, strings.Repeat("1+", 127)+"1", nil, 0, 128)
}

// What Value tells is what Lex, Parse and Eval tell.
func TestValueIsThatOfTheTree(t *testing.T) {
	have := names{"a": 5, "b": -3}
	for _, text := range []string{"a", "a+b", "a/(b+3)", "c", "<b", "a<<b", "~a", "**a"} {
		value, e := tree(t, text).Eval(have, 9)
		got, at, gotE := expr.Value(text, have, 9)
		if got != value || at != 0 || gotE != e {
			t.Errorf("Value(%q) = %d, %d, %v, not %d, %v", text, got, at, gotE, value, e)
		}
	}
}
