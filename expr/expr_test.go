package expr_test

import (
	"math"
	"slices"
	"strings"
	"testing"

	"orrery/api"
	"orrery/expr"
	"orrery/lexer"
)

type (
	tokens = []lexer.Token
	names  = map[string]int
)

// The least and the greatest value, and one beyond each.
const (
	least      = -1 << 31
	most       = 1<<32 - 1
	underLeast = least - 1
	overMost   = most + 1
)

func number(value int) lexer.Token { return lexer.Token{Kind: lexer.Number, Text: "7", Value: value} }

func char(value int) lexer.Token { return lexer.Token{Kind: lexer.Char, Text: "'7'", Value: value} }

func name(told string) lexer.Token { return lexer.Token{Kind: lexer.Name, Text: told} }

func mark(told string) lexer.Token { return lexer.Token{Kind: lexer.Mark, Text: told} }

// lexed: the tokens of a text of any length, which has no blank within a token.
func lexed(t testing.TB, text string) tokens {
	t.Helper()
	if len(text) <= api.MaxLine {
		list, at, e := lexer.Lex(text)
		if e != api.OK {
			t.Fatalf("Lex(%q): %d, %v", text, at, e)
		}
		return list
	}
	var all tokens
	for piece := range strings.FieldsSeq(text) {
		all = append(all, lexed(t, piece)...)
	}
	return all
}

func treeOf(t testing.TB, list tokens) *expr.Tree {
	t.Helper()
	tree, at, e := expr.Parse(list)
	if tree == nil || at != 0 || e != api.OK {
		t.Fatalf("Parse(%v) = %v, %d, %v", list, tree, at, e)
	}
	return tree
}

func tree(t testing.TB, text string) *expr.Tree {
	t.Helper()
	return treeOf(t, lexed(t, text))
}

func wantFault(t *testing.T, list tokens, at int, e api.Errno) {
	t.Helper()
	if tree, gotAt, gotE := expr.Parse(list); tree != nil || gotAt != at || gotE != e {
		t.Errorf("Parse(%v) = %v, %d, %v, not %d, %v", list, tree, gotAt, gotE, at, e)
	}
}

// wantEval: a value of a tree, or 0 and an error.
func wantEval(t *testing.T, tree *expr.Tree, have names, here, value int, e api.Errno) {
	t.Helper()
	if got, gotE := tree.Eval(have, here); got != value || gotE != e {
		t.Errorf("%s with %v at %d is worth %d, %v, not %d, %v", tree.Text(), have, here, got, gotE, value, e)
	}
}

func wantValue(t *testing.T, text string, have names, here, value int) {
	t.Helper()
	if got, at, e := expr.Value(text, have, here); got != value || at != 0 || e != api.OK {
		t.Errorf("Value(%q, %v, %d) = %d, %d, %v, not %d", text, have, here, got, at, e, value)
	}
	wantEval(t, tree(t, text), have, here, value, api.OK)
}

func wantValueFault(t *testing.T, text string, have names, here, at int, e api.Errno) {
	t.Helper()
	if got, gotAt, gotE := expr.Value(text, have, here); got != 0 || gotAt != at || gotE != e {
		t.Errorf("Value(%q, %v, %d) = %d, %d, %v, not %d, %v", text, have, here, got, gotAt, gotE, at, e)
	}
}

func wantText(t *testing.T, list tokens, want string) {
	t.Helper()
	if got := treeOf(t, list).Text(); got != want {
		t.Errorf("the text of %v is %q, not %q", list, got, want)
	}
}

func wantList[T comparable](t *testing.T, what string, got []T, want ...T) {
	t.Helper()
	if !slices.Equal(got, want) {
		t.Errorf("%s: %v, not %v", what, got, want)
	}
}

// The chapter's examples.
func TestExamples(t *testing.T) {
	for _, c := range []struct {
		text, told  string
		here, value int
	}{
		{"1+2*3", "(1+(2*3))", 0, 7},
		{"<$1234+1", "(<(4660+1))", 0, 53},
		{">$1234", "(>4660)", 0, 18},
		{"-1<<4", "(-1<<4)", 0, -16},
		{"~0&$ff", "(~0&255)", 0, 255},
		{"!5", "!5", 0, 0},
		{"* - *", "(*-*)", 7, 0},
		{"** *", "(***)", 7, 49},
		{"2>>1>>1", "((2>>1)>>1)", 0, 0},
		{"-7/2", "(-7/2)", 0, -3},
		{"7|8^15&1", "(7|(8^(15&1)))", 0, 15},
	} {
		wantText(t, lexed(t, c.text), c.told)
		wantValue(t, c.text, nil, c.here, c.value)
	}
	wantValueFault(t, "a/0", names{"a": 1}, 0, 0, api.ErrZero)
	wantValueFault(t, "1<<32", nil, 0, 0, api.ErrRange)
	wantValueFault(t, "$ffffffff+1", nil, 0, 0, api.ErrRange)
	wantValueFault(t, "x", nil, 0, 0, api.ErrUndefined)
	wantValueFault(t, "1+", nil, 0, 2, api.ErrSyntax)
	wantValueFault(t, "( 2", nil, 0, 3, api.ErrSyntax)
	wantValueFault(t, "3 4", nil, 0, 2, api.ErrSyntax)
}

// Every method of a nil tree answers as the chapter says.
func TestNilTree(t *testing.T) {
	var none *expr.Tree
	wantEval(t, none, nil, 0, 0, api.ErrNil)
	wantEval(t, none, names{"a": 1}, math.MaxInt, 0, api.ErrNil)
	wantList(t, "Names", none.Names())
	wantList(t, "Rules", none.Rules())
	if none.Known() || none.Text() != "" {
		t.Errorf("a nil tree: %v, %q", none.Known(), none.Text())
	}
}

// P1603: of numbers in their whole range.
func TestPrecedence(t *testing.T) {
	for _, c := range [][2]string{
		{"a+b*c", "a+(b*c)"}, {"a-b-c", "(a-b)-c"}, {"<a+b", "<(a+b)"}, {"-a*b", "(-a)*b"},
		{"a*b+c", "(a*b)+c"}, {"a/b/c", "(a/b)/c"}, {"a/b*c", "(a/b)*c"}, {"a-b+c", "(a-b)+c"}, {"a+b-c", "(a+b)-c"},
		{"a<<b<<c", "(a<<b)<<c"}, {"a>>b<<c", "(a>>b)<<c"}, {"a<<b>>c", "(a<<b)>>c"}, {"a+b<<c", "(a+b)<<c"}, {"a<<b+c", "a<<(b+c)"},
		{"a&b<<c", "a&(b<<c)"}, {"a^b&c", "a^(b&c)"}, {"a|b^c", "a|(b^c)"}, {"a&b^c", "(a&b)^c"}, {"a^b|c", "(a^b)|c"}, {"a&b|c", "(a&b)|c"},
		{">a|b", ">(a|b)"}, {">a-b*c", ">(a-(b*c))"}, {"a+<b+c", "a+(<(b+c))"}, {"a*>b|c", "a*(>(b|c))"}, {"<>a+b", "<(>(a+b))"},
		{"~a&b", "(~a)&b"}, {"!a+b", "(!a)+b"}, {"+a*b", "(+a)*b"}, {"-a<<b", "(-a)<<b"}, {"-~!+a", "-(~(!(+a)))"}, {"a- -b-c", "(a-(-b))-c"},
	} {
		bare, clear := tree(t, c[0]), tree(t, c[1])
		if bare.Text() != clear.Text() {
			t.Errorf("%s is %s, not %s", c[0], bare.Text(), clear.Text())
		}
		edges := []int{least, -7, -1, 0, 1, 3, 30, 255, most}
		for _, a := range edges {
			for _, b := range edges {
				for _, third := range edges {
					have := names{"a": a, "b": b, "c": third}
					value, e := clear.Eval(have, 0)
					wantEval(t, bare, have, 0, value, e)
				}
			}
		}
	}
}

// P1604.
func TestParentheses(t *testing.T) {
	have := names{"a": 5, "b": -3, "big": overMost}
	for _, text := range []string{"1", "a", "*", "-a", "~*", "a+b*2", "<a-300", ">*", "1<<b", "a/0", "big", "none", "a|b^3&*", "(a)", "((a)-(b))", "!!a", "2>>1>>1"} {
		bare := tree(t, text)
		within := text
		for range 5 {
			within = "(" + within + ")"
			closed := tree(t, within)
			if closed.Text() != bare.Text() || closed.Known() != bare.Known() {
				t.Errorf("%s is %s, not %s", within, closed.Text(), bare.Text())
			}
			for _, here := range []int{least, 0, 7, overMost} {
				value, e := bare.Eval(have, here)
				wantEval(t, closed, have, here, value, e)
			}
		}
	}
	deep := strings.Repeat("( ", 127) + "9 " + strings.Repeat(") ", 127)
	wantText(t, lexed(t, deep), "9")
	wantEval(t, tree(t, deep), nil, 0, 9, api.OK)
}
