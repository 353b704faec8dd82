package expr_test

import (
	"math"
	"testing"

	"orrery/api"
	"orrery/lexer"
)

// The operations with two sides, and those with one.
var (
	pairs    = []string{"|", "^", "&", "<<", ">>", "+", "-", "*", "/"}
	prefixes = []string{"-", "+", "~", "!", "<", ">"}
)

// closed: the text of an operation with one side.
func closed(told, of string) string {
	if told == "<" || told == ">" {
		return "(" + told + of + ")"
	}
	return told + of
}

// F16.4: each operation inside each other, on each side, where parentheses put it.
func TestTextOfEachInsideEach(t *testing.T) {
	for _, outer := range pairs {
		wantText(t, lexed(t, "a"+outer+"1"), "(a"+outer+"1)")
		for _, inner := range pairs {
			wantText(t, lexed(t, "(a"+inner+"b)"+outer+"1"), "((a"+inner+"b)"+outer+"1)")
			wantText(t, lexed(t, "1"+outer+"(a"+inner+"b)"), "(1"+outer+"(a"+inner+"b))")
		}
		for _, inner := range prefixes {
			wantText(t, lexed(t, "("+inner+"a)"+outer+"1"), "("+closed(inner, "a")+outer+"1)")
			wantText(t, lexed(t, "1"+outer+" "+inner+"a"), "(1"+outer+closed(inner, "a")+")")
		}
	}
	for _, outer := range prefixes {
		wantText(t, lexed(t, outer+"a"), closed(outer, "a"))
		for _, inner := range pairs {
			wantText(t, lexed(t, outer+"(a"+inner+"b)"), closed(outer, "(a"+inner+"b)"))
		}
		for _, inner := range prefixes {
			wantText(t, lexed(t, outer+"("+inner+"a)"), closed(outer, closed(inner, "a")))
		}
	}
}

// F16.4: what stands without an operation, and parentheses that are not told.
func TestTextOfLeaves(t *testing.T) {
	for _, c := range [][2]string{
		{"0", "0"}, {"$ff", "255"}, {"%101", "5"}, {"@17", "15"}, {"007", "7"}, {"'a'", "97"}, {"4294967295", "4294967295"}, {"aB.c_9", "aB.c_9"}, {"*", "*"},
		{"(1)", "1"}, {"((a))", "a"}, {"(*)", "*"}, {"-(1)", "-1"}, {"-(-1)", "--1"}, {"(<1)", "(<1)"}, {"((1)+((2)))", "(1+2)"}, {" 1 + 2 ; three", "(1+2)"}, {"* * *", "(***)"},
		{"~ - ! + 3", "~-!+3"}, {"< < 1", "(<(<1))"}, {"> > 1", "(>(>1))"}, {"1 << < 2", "(1<<(<2))"}, {"1 - - 2", "(1--2)"}, {"- ( < 1 )", "-(<1)"},
	} {
		wantText(t, lexed(t, c[0]), c[1])
	}
}

// F16.4: a number token's Value in its whole range, whatever its text is.
func TestTextOfNumbers(t *testing.T) {
	for _, c := range []struct {
		value int
		text  string
	}{
		{0, "0"}, {-1, "-1"}, {least, "-2147483648"}, {underLeast, "-2147483649"}, {most, "4294967295"}, {overMost, "4294967296"},
		{math.MinInt, "-9223372036854775808"}, {math.MaxInt, "9223372036854775807"},
	} {
		wantText(t, tokens{number(c.value)}, c.text)
		wantText(t, tokens{char(c.value)}, c.text)
		wantText(t, tokens{mark("-"), number(c.value)}, "-"+c.text)
		wantText(t, tokens{number(c.value), mark("<<"), char(c.value)}, "("+c.text+"<<"+c.text+")")
	}
	wantText(t, tokens{name("or"), mark("|"), name("7 é")}, "(or|7 é)")
}

// wantBack: P1602, of one tree with these names.
func wantBack(t *testing.T, list tokens, have names, here int) {
	t.Helper()
	first := treeOf(t, list)
	again, _, e := lexer.Lex(first.Text())
	if e != api.OK {
		t.Fatalf("Lex(%q): %v", first.Text(), e)
	}
	second := treeOf(t, again)
	if second.Text() != first.Text() || second.Known() != first.Known() {
		t.Errorf("the text of %q is %q", first.Text(), second.Text())
	}
	wantList(t, first.Text(), second.Names(), first.Names()...)
	value, e := first.Eval(have, here)
	wantEval(t, second, have, here, value, e)
	value, e = first.Eval(nil, overMost)
	wantEval(t, second, nil, overMost, value, e)
}

// P1602.
func TestTextThereAndBack(t *testing.T) {
	have := names{"a": 300, "b": -7, "c": 3}
	for _, text := range []string{
		"1", "'a'", "$ff", "a", "*", "-1", "--1", "1- -1", "1+2*3", "(1+2)*3", "<a+b", "(<a)+b", ">a", "<>a", "-(<a)", "~!+-a", "***", "** *", "a<<c", "a>>c", "1<< <c", "b>>(>a)", "a|b^c&1",
		"a/b", "a/(b-b)", "1<<40", "none", "none*$ffffffff", "$ffffffff*2", "((((a))))", "a-b-c", "a-(b-c)",
	} {
		wantBack(t, lexed(t, text), have, 7)
	}
	wantBack(t, tokens{number(-5), mark("<<"), number(2)}, nil, 0)
	wantBack(t, tokens{mark("-"), number(-5)}, nil, 0)
	wantBack(t, tokens{number(least)}, nil, 0)
	wantBack(t, tokens{number(1), mark("-"), char(-5)}, nil, 0)
}
