package expr_test

import (
	"math"
	"strings"
	"testing"

	"orrery/api"
	"orrery/lexer"
)

// wantOperation: of a number and a Char, and of two names.
func wantOperation(t *testing.T, left int, told string, right, value int, e api.Errno) {
	t.Helper()
	wantEval(t, treeOf(t, tokens{number(left), mark(told), char(right)}), nil, 0, value, e)
	wantEval(t, treeOf(t, tokens{name("l"), mark(told), name("r")}), names{"l": left, "r": right}, 0, value, e)
}

func wantPrefix(t *testing.T, told string, of, value int, e api.Errno) {
	t.Helper()
	wantEval(t, treeOf(t, tokens{mark(told), number(of)}), nil, 0, value, e)
	wantEval(t, treeOf(t, tokens{mark(told), mark("*")}), nil, of, value, e)
}

// beyond: no values, one beyond each end and far beyond.
var beyond = []int{underLeast, overMost, math.MinInt, math.MaxInt, -1 << 32, 1 << 33, 1 << 62}

// F16.3: of what is worth something by itself.
func TestWhatIsNoValue(t *testing.T) {
	for _, value := range []int{least, least + 1, -1, 0, 1, 255, 1 << 31, most - 1, most} {
		wantEval(t, treeOf(t, tokens{number(value)}), nil, overMost, value, api.OK)
		wantEval(t, treeOf(t, tokens{char(value)}), nil, 0, value, api.OK)
		wantEval(t, treeOf(t, tokens{name("a")}), names{"a": value, "b": overMost}, 0, value, api.OK)
		wantEval(t, treeOf(t, tokens{mark("*")}), nil, value, value, api.OK)
	}
	for _, value := range beyond {
		wantEval(t, treeOf(t, tokens{number(value)}), nil, 0, 0, api.ErrRange)
		wantEval(t, treeOf(t, tokens{char(value)}), nil, 0, 0, api.ErrRange)
		wantEval(t, treeOf(t, tokens{name("a")}), names{"a": value}, 0, 0, api.ErrRange)
		wantEval(t, treeOf(t, tokens{mark("*")}), nil, value, 0, api.ErrRange)
		wantEval(t, treeOf(t, tokens{mark("("), number(value), mark(")")}), nil, 0, 0, api.ErrRange)
		for _, told := range []string{"-", "+", "~", "!", "<", ">"} {
			wantPrefix(t, told, value, 0, api.ErrRange)
		}
		for _, told := range []string{"|", "^", "&", "<<", ">>", "+", "-", "*", "/"} {
			wantOperation(t, value, told, 1, 0, api.ErrRange)
			wantOperation(t, 0, told, value, 0, api.ErrRange)
			wantOperation(t, value, told, value, 0, api.ErrRange)
		}
	}
}

// F16.3: names are asked by just their bytes.
func TestNamesThatAreNotThere(t *testing.T) {
	one := treeOf(t, tokens{name("loop")})
	for _, have := range []names{nil, {}, {"Loop": 1, "LOOP": 2, "loo": 3, "loops": 4, " loop": 5, "": 6}} {
		wantEval(t, one, have, 0, 0, api.ErrUndefined)
	}
	wantEval(t, one, names{"loop": 0}, 0, 0, api.OK)
	wantEval(t, one, names{"Loop": 1, "loop": 2}, 0, 2, api.OK)
	wantEval(t, treeOf(t, tokens{name("a"), mark("-"), name("A")}), names{"a": 9, "A": 2}, 0, 7, api.OK)
	wantEval(t, treeOf(t, tokens{name("")}), names{"": 3}, 0, 3, api.OK)
}

// Here is asked where * is a place, and nowhere else.
func TestHere(t *testing.T) {
	for _, here := range append([]int{least, 0, 65535, most}, beyond...) {
		wantEval(t, tree(t, "2*3"), nil, here, 6, api.OK)
		wantEval(t, tree(t, "a*a"), names{"a": 3, "*": 5}, here, 9, api.OK)
	}
	wantEval(t, tree(t, "2**"), nil, 3, 6, api.OK)
	wantEval(t, tree(t, "**2"), nil, 3, 6, api.OK)
	wantEval(t, tree(t, "***"), nil, 65535, 65535*65535, api.OK)
	wantEval(t, tree(t, "***"), nil, 65536, 0, api.ErrRange)
	wantEval(t, tree(t, "-*"), nil, -5, 5, api.OK)
	wantEval(t, tree(t, "(*)+*"), nil, 7, 14, api.OK)
	wantEval(t, tree(t, "2**"), names{"*": 5}, overMost, 0, api.ErrRange)
}

func TestSums(t *testing.T) {
	wantOperation(t, 1, "+", 2, 3, api.OK)
	wantOperation(t, -1, "+", -2, -3, api.OK)
	wantOperation(t, most, "+", 0, most, api.OK)
	wantOperation(t, most, "+", 1, 0, api.ErrRange)
	wantOperation(t, most, "+", most, 0, api.ErrRange)
	wantOperation(t, most, "+", least, 1<<31-1, api.OK)
	wantOperation(t, least, "+", 0, least, api.OK)
	wantOperation(t, least, "+", -1, 0, api.ErrRange)
	wantOperation(t, least, "+", least, 0, api.ErrRange)
	wantOperation(t, 1<<31, "+", 1<<31-1, most, api.OK)
	wantOperation(t, 1<<31, "+", 1<<31, 0, api.ErrRange)
}

func TestDifferences(t *testing.T) {
	wantOperation(t, 1, "-", 2, -1, api.OK)
	wantOperation(t, -1, "-", -2, 1, api.OK)
	wantOperation(t, 0, "-", 1<<31, least, api.OK)
	wantOperation(t, -1, "-", 1<<31, 0, api.ErrRange)
	wantOperation(t, 0, "-", most, 0, api.ErrRange)
	wantOperation(t, 0, "-", least, 1<<31, api.OK)
	wantOperation(t, most, "-", most, 0, api.OK)
	wantOperation(t, most, "-", -1, 0, api.ErrRange)
	wantOperation(t, most, "-", least, 0, api.ErrRange)
	wantOperation(t, 1<<31-1, "-", least, most, api.OK)
	wantOperation(t, least, "-", most, 0, api.ErrRange)
	wantOperation(t, least, "-", least, 0, api.OK)
}

// Some products would not fit into 64 bits.
func TestProducts(t *testing.T) {
	wantOperation(t, 3, "*", -5, -15, api.OK)
	wantOperation(t, -3, "*", -5, 15, api.OK)
	wantOperation(t, 65535, "*", 65537, most, api.OK)
	wantOperation(t, 65537, "*", 65535, most, api.OK)
	wantOperation(t, 65536, "*", 65536, 0, api.ErrRange)
	wantOperation(t, -65536, "*", 32768, least, api.OK)
	wantOperation(t, 32768, "*", -65536, least, api.OK)
	wantOperation(t, -65537, "*", 32768, 0, api.ErrRange)
	wantOperation(t, 1, "*", most, most, api.OK)
	wantOperation(t, most, "*", 1, most, api.OK)
	wantOperation(t, most, "*", 0, 0, api.OK)
	wantOperation(t, 0, "*", most, 0, api.OK)
	wantOperation(t, 0, "*", least, 0, api.OK)
	wantOperation(t, most, "*", most, 0, api.ErrRange)
	wantOperation(t, most, "*", -1, 0, api.ErrRange)
	wantOperation(t, -1, "*", most, 0, api.ErrRange)
	wantOperation(t, most, "*", least, 0, api.ErrRange)
	wantOperation(t, least, "*", most, 0, api.ErrRange)
	wantOperation(t, least, "*", least, 0, api.ErrRange)
	wantOperation(t, least, "*", -1, 1<<31, api.OK)
	wantOperation(t, least, "*", 1, least, api.OK)
	wantOperation(t, least, "*", 2, 0, api.ErrRange)
	wantOperation(t, 3037000500, "*", 3037000500, 0, api.ErrRange)
	wantOperation(t, 4294967291, "*", 4294967291, 0, api.ErrRange)
	wantOperation(t, 4294967295, "*", 4294967294, 0, api.ErrRange)
	wantOperation(t, 1<<31, "*", 1<<31, 0, api.ErrRange)
	wantOperation(t, 1<<31, "*", 2, 0, api.ErrRange)
	wantOperation(t, 1<<31-1, "*", 2, 1<<32-2, api.OK)
}

func TestQuotients(t *testing.T) {
	wantOperation(t, 7, "/", 2, 3, api.OK)
	wantOperation(t, -7, "/", 2, -3, api.OK)
	wantOperation(t, 7, "/", -2, -3, api.OK)
	wantOperation(t, -7, "/", -2, 3, api.OK)
	wantOperation(t, 1, "/", -2, 0, api.OK)
	wantOperation(t, -1, "/", 2, 0, api.OK)
	wantOperation(t, 0, "/", 5, 0, api.OK)
	wantOperation(t, most, "/", most, 1, api.OK)
	wantOperation(t, most, "/", 1, most, api.OK)
	wantOperation(t, most, "/", -1, 0, api.ErrRange)
	wantOperation(t, most, "/", -2, -2147483647, api.OK)
	wantOperation(t, most, "/", least, -1, api.OK)
	wantOperation(t, least, "/", -1, 1<<31, api.OK)
	wantOperation(t, least, "/", most, 0, api.OK)
	wantOperation(t, least, "/", least, 1, api.OK)
	for _, left := range []int{least, -1, 0, 1, most} {
		wantOperation(t, left, "/", 0, 0, api.ErrZero)
	}
}

func TestShiftsUp(t *testing.T) {
	wantOperation(t, 1, "<<", 0, 1, api.OK)
	wantOperation(t, 1, "<<", 31, 1<<31, api.OK)
	wantOperation(t, 3, "<<", 30, 3<<30, api.OK)
	wantOperation(t, 3, "<<", 31, 0, api.ErrRange)
	wantOperation(t, 2, "<<", 31, 0, api.ErrRange)
	wantOperation(t, -1, "<<", 31, least, api.OK)
	wantOperation(t, -2, "<<", 30, least, api.OK)
	wantOperation(t, -2, "<<", 31, 0, api.ErrRange)
	wantOperation(t, -3, "<<", 2, -12, api.OK)
	wantOperation(t, 0, "<<", 31, 0, api.OK)
	wantOperation(t, most, "<<", 0, most, api.OK)
	wantOperation(t, most, "<<", 1, 0, api.ErrRange)
	wantOperation(t, most, "<<", 31, 0, api.ErrRange)
	wantOperation(t, least, "<<", 0, least, api.OK)
	wantOperation(t, least, "<<", 1, 0, api.ErrRange)
	wantOperation(t, least, "<<", 31, 0, api.ErrRange)
	wantOperation(t, 1<<31-1, "<<", 1, 1<<32-2, api.OK)
}

func TestShiftsDown(t *testing.T) {
	wantOperation(t, 5, ">>", 0, 5, api.OK)
	wantOperation(t, 5, ">>", 1, 2, api.OK)
	wantOperation(t, -5, ">>", 1, -3, api.OK)
	wantOperation(t, -5, ">>", 31, -1, api.OK)
	wantOperation(t, -1, ">>", 31, -1, api.OK)
	wantOperation(t, most, ">>", 31, 1, api.OK)
	wantOperation(t, most, ">>", 0, most, api.OK)
	wantOperation(t, least, ">>", 0, least, api.OK)
	wantOperation(t, least, ">>", 31, -1, api.OK)
	wantOperation(t, least, ">>", 30, -2, api.OK)
}

// By how much is asked ahead of what it comes to, whatever is shifted.
func TestShiftsByTooMuch(t *testing.T) {
	for _, by := range []int{-1, 32, 33, 63, 64, 255, 256, -31, -32, -64, least, most, 1 << 31} {
		for _, left := range []int{least, -1, 0, 1, most} {
			wantOperation(t, left, "<<", by, 0, api.ErrRange)
			wantOperation(t, left, ">>", by, 0, api.ErrRange)
		}
	}
}

// Numbers below 0 are two's complements without an end.
func TestBits(t *testing.T) {
	wantOperation(t, 0b1100, "|", 0b1010, 0b1110, api.OK)
	wantOperation(t, 0b1100, "^", 0b1010, 0b0110, api.OK)
	wantOperation(t, 0b1100, "&", 0b1010, 0b1000, api.OK)
	wantOperation(t, -1, "|", most, -1, api.OK)
	wantOperation(t, -1, "&", most, most, api.OK)
	wantOperation(t, -1, "^", most, 0, api.ErrRange)
	wantOperation(t, -1, "^", 1<<31-1, least, api.OK)
	wantOperation(t, -1, "^", 1<<31, 0, api.ErrRange)
	wantOperation(t, least, "|", most, -1, api.OK)
	wantOperation(t, least, "&", most, 1<<31, api.OK)
	wantOperation(t, least, "^", most, 0, api.ErrRange)
	wantOperation(t, least, "^", least, 0, api.OK)
	wantOperation(t, least, "^", -1, 1<<31-1, api.OK)
	wantOperation(t, least, "|", 1, least+1, api.OK)
	wantOperation(t, least, "&", -2, least, api.OK)
	wantOperation(t, -4, "|", 3, -1, api.OK)
	wantOperation(t, -4, "&", 7, 4, api.OK)
	wantOperation(t, -4, "^", -1, 3, api.OK)
	wantOperation(t, most, "^", most, 0, api.OK)
	wantOperation(t, most, "|", 0, most, api.OK)
	wantPrefix(t, "~", 0, -1, api.OK)
	wantPrefix(t, "~", -1, 0, api.OK)
	wantPrefix(t, "~", 5, -6, api.OK)
	wantPrefix(t, "~", least, 1<<31-1, api.OK)
	wantPrefix(t, "~", 1<<31-1, least, api.OK)
	wantPrefix(t, "~", 1<<31, 0, api.ErrRange)
	wantPrefix(t, "~", most, 0, api.ErrRange)
}

func TestSigns(t *testing.T) {
	wantPrefix(t, "-", 5, -5, api.OK)
	wantPrefix(t, "-", -5, 5, api.OK)
	wantPrefix(t, "-", 0, 0, api.OK)
	wantPrefix(t, "-", 1<<31, least, api.OK)
	wantPrefix(t, "-", 1<<31+1, 0, api.ErrRange)
	wantPrefix(t, "-", most, 0, api.ErrRange)
	wantPrefix(t, "-", least, 1<<31, api.OK)
	for _, of := range []int{least, -1, 0, 1, most} {
		wantPrefix(t, "+", of, of, api.OK)
	}
	wantPrefix(t, "!", 0, 1, api.OK)
	for _, of := range []int{least, -1, 1, 2, 256, 1 << 31, most} {
		wantPrefix(t, "!", of, 0, api.OK)
	}
	wantEval(t, tree(t, "--1"), nil, 0, 1, api.OK)
	wantEval(t, tree(t, "!!7"), nil, 0, 1, api.OK)
	wantEval(t, tree(t, "~~7"), nil, 0, 7, api.OK)
	wantEval(t, tree(t, "-~7"), nil, 0, 8, api.OK)
}

func TestHalves(t *testing.T) {
	for _, c := range []struct{ of, low, high int }{
		{0, 0, 0}, {0x1234, 0x34, 0x12}, {255, 255, 0}, {256, 0, 1}, {0xabcdef, 0xef, 0xcd}, {most, 255, 255}, {1 << 31, 0, 0}, {0xff00, 0, 255},
		{-1, 255, 255}, {-2, 254, 255}, {-256, 0, 255}, {-257, 255, 254}, {-0x1234, 0xcc, 0xed}, {least, 0, 0}, {least + 1, 1, 0}, {least + 256, 0, 1},
	} {
		wantPrefix(t, "<", c.of, c.low, api.OK)
		wantPrefix(t, ">", c.of, c.high, api.OK)
	}
	wantEval(t, tree(t, "<255+1"), nil, 0, 0, api.OK)
	wantEval(t, tree(t, ">255+1"), nil, 0, 1, api.OK)
	wantEval(t, tree(t, "(<255)+1"), nil, 0, 256, api.OK)
	wantEval(t, tree(t, "1+<255+1"), nil, 0, 1, api.OK)
	wantEval(t, tree(t, "<0-1|2"), nil, 0, 255, api.OK)
	wantEval(t, tree(t, "><$1234"), nil, 0, 0, api.OK)
	wantEval(t, tree(t, "<>$1234"), nil, 0, 0x12, api.OK)
}

// F16.3: the first error from the left, a side's ahead of the operation's own, and that ahead of what it comes to.
func TestFirstErrorIsTold(t *testing.T) {
	have := names{"big": overMost, "a": 1}
	for _, c := range []struct {
		text string
		e    api.Errno
	}{
		{"none+big", api.ErrUndefined}, {"big+none", api.ErrRange}, {"none+1/0", api.ErrUndefined}, {"1/0+none", api.ErrZero}, {"1/0+big", api.ErrZero}, {"big+1/0", api.ErrRange},
		{"none/0", api.ErrUndefined}, {"big/0", api.ErrRange}, {"0/none", api.ErrUndefined}, {"0/big", api.ErrRange}, {"none<<32", api.ErrUndefined}, {"1<<none", api.ErrUndefined},
		{"(1<<32)/0", api.ErrRange}, {"(1/0)<<32", api.ErrZero}, {"1/0<<none", api.ErrZero}, {"(1<<-1)+none", api.ErrRange}, {"none+(1<<-1)", api.ErrUndefined},
		{"$ffffffff*2/0", api.ErrRange}, {"1/0*2", api.ErrZero}, {"-(1/0)", api.ErrZero}, {"~none", api.ErrUndefined}, {"!none", api.ErrUndefined}, {"!big", api.ErrRange},
		{"<none", api.ErrUndefined}, {">1/0", api.ErrZero}, {"<$ffffffff+1", api.ErrRange}, {"-$ffffffff/0", api.ErrRange}, {"~$ffffffff&0", api.ErrRange}, {"$ffffffff+1-1", api.ErrRange},
		{"0*none", api.ErrUndefined}, {"0&big", api.ErrRange}, {"0*(1/0)", api.ErrZero}, {"a+(2-(none*(1/0)))", api.ErrUndefined}, {"a+((1/0)-none)", api.ErrZero},
		{"*+none", api.ErrRange}, {"none+*", api.ErrUndefined}, {"*/0", api.ErrRange}, {"1/0-*", api.ErrZero},
	} {
		wantEval(t, tree(t, c.text), have, overMost, 0, c.e)
		wantValueFault(t, c.text, have, overMost, 0, c.e)
	}
	wantEval(t, tree(t, "a"), have, overMost, 1, api.OK)
	wantEval(t, tree(t, "1-1+$ffffffff"), nil, 0, most, api.OK)
}

// An error of one Eval is not kept for the next.
func TestEvalAgain(t *testing.T) {
	one := tree(t, "a/b+*")
	for range 3 {
		wantEval(t, one, nil, 0, 0, api.ErrUndefined)
		wantEval(t, one, names{"a": 9, "b": 0}, 0, 0, api.ErrZero)
		wantEval(t, one, names{"a": 9, "b": 2}, 6, 10, api.OK)
		wantEval(t, one, names{"a": 9, "b": 2}, overMost, 0, api.ErrRange)
	}
}

// F16.3.
func TestNames(t *testing.T) {
	for _, c := range []struct {
		text, names string
	}{
		{"1", ""}, {"*", ""}, {"a", "a"}, {"a+a", "a"}, {"b+a*b", "b a"}, {"a+A", "a A"}, {"z-(y|x)*-z/<w+y", "z y x w"}, {"-a", "a"}, {"<a", "a"}, {"((c))", "c"}, {"c&b|a", "c b a"},
		{"1+(2*c)+b", "c b"}, {"a*b*a*b*c*a", "a b c"}, {"'a'+b", "b"}, {".x+_y+x.y", ".x _y x.y"},
	} {
		wantList(t, c.text, tree(t, c.text).Names(), strings.Fields(c.names)...)
	}
	var many tokens
	var want []string
	for n := range api.MaxLine {
		if n%2 == 1 {
			many = append(many, mark("-"))
			continue
		}
		told := strings.Repeat("n", n/2%100+1)
		many = append(many, name(told))
		if n/2 < 100 {
			want = append(want, told)
		}
	}
	wantList(t, "many names", treeOf(t, many).Names(), want...)
}

// F16.3.
func TestKnown(t *testing.T) {
	for _, text := range []string{"1", "'a'", "1*2", "(3*4)*5", "-1", "<2", ">3+4", "~!+5", "1/0", "1<<99", "$ffffffff*2"} {
		if !tree(t, text).Known() {
			t.Errorf("%s is not known", text)
		}
	}
	for _, text := range []string{"a", "*", "-a", "-*", "1+a", "a+1", "1**", "**1", "(*)", "(a)", "<*", ">a", "~*", "!a", "+*", "1+(2-(3*(4|*)))", "0*a", "0&*", "a+*", "a-a", "*-*"} {
		if tree(t, text).Known() {
			t.Errorf("%s is known", text)
		}
	}
	if !treeOf(t, tokens{number(overMost)}).Known() || treeOf(t, tokens{name("")}).Known() {
		t.Error("a number is known whatever it is worth, a name never")
	}
}

// P1605: other names, and here where no * stands, change nothing; those that it has do.
func TestWhatTheValueHangsOn(t *testing.T) {
	for _, text := range []string{"1+2", "a*3-b", "<a", "*+a", "~(*+b)", "a-a", "a/b", "a<<b"} {
		one := tree(t, text)
		have := names{"a": 21, "b": 2}
		value, e := one.Eval(have, 9)
		only := names{}
		for _, told := range one.Names() {
			only[told] = have[told]
		}
		wantEval(t, one, only, 9, value, e)
		only["c"], only["A"], only[""], only["*"] = 5, overMost, -1, 77
		wantEval(t, one, only, 9, value, e)
		for _, told := range one.Names() {
			delete(only, told)
			wantEval(t, one, only, 9, 0, api.ErrUndefined)
			only[told] = have[told]
		}
		if other, _ := one.Eval(have, 10); strings.Contains(one.Text(), "*+") && other == value {
			t.Errorf("%s is worth %d at 9 and at 10", text, value)
		} else if !strings.Contains(one.Text(), "*+") {
			wantEval(t, one, have, 10, value, e)
			wantEval(t, one, have, overMost, value, e)
		}
	}
}

// A Char and a Number of one Value are worth the same, whatever their texts are.
func TestNumbersByTheirValues(t *testing.T) {
	wantEval(t, tree(t, "'a'+$10+%11+@17+9"), nil, 0, 97+16+3+15+9, api.OK)
	wantEval(t, treeOf(t, tokens{{Kind: lexer.Number, Text: "5", Value: 6}}), nil, 0, 6, api.OK)
	wantEval(t, treeOf(t, tokens{{Kind: lexer.Char, Text: "'a'", Value: 6}}), nil, 0, 6, api.OK)
	wantEval(t, treeOf(t, tokens{{Kind: lexer.Name, Text: "a", Value: 6}}), names{"a": 7}, 0, 7, api.OK)
}
