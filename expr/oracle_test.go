package expr_test

import (
	"fmt"
	"math/big"
	"math/rand"
	"slices"
	"testing"

	"orrery/api"
	"orrery/expr"
	"orrery/lexer"
)

// piece: of a tree that is read from the top down, without any tables.
type piece struct {
	told        string // a leaf's text, or an operation's mark
	leaf        func(have names, here int) (int, bool)
	left, right *piece // an operation with one side has but a right one
}

// climber: reads tokens by their levels, and notes the rules as their right sides are whole.
type climber struct {
	list  tokens
	at    int
	rules []int
}

// stuck: where a token can not stand.
type stuck int

var (
	pairRules   = map[string]int{"|": 0, "^": 1, "&": 2, "<<": 3, ">>": 4, "+": 5, "-": 6, "*": 7, "/": 8}
	pairLevels  = map[string]int{"|": 2, "^": 3, "&": 4, "<<": 5, ">>": 5, "+": 6, "-": 6, "*": 7, "/": 7}
	prefixRules = map[string]int{"<": 9, ">": 10, "-": 12, "+": 13, "~": 14, "!": 15}
)

func climbed(list tokens) (whole *piece, rules []int, at int, ok bool) {
	c := &climber{list: list}
	defer func() {
		if place, is := recover().(stuck); is {
			whole, rules, at, ok = nil, nil, int(place), false
		}
	}()
	whole = c.expression(0)
	if c.at < len(list) {
		panic(stuck(c.at))
	}
	return whole, c.rules, 0, true
}

// mark: the one that comes next; nothing, if none does.
func (c *climber) mark() string {
	if c.at < len(c.list) && c.list[c.at].Kind == lexer.Mark {
		return c.list[c.at].Text
	}
	return ""
}

func (c *climber) note(rule int) { c.rules = append(c.rules, rule) }

// expression: with all operations above that level.
func (c *climber) expression(level int) *piece {
	left := c.operand()
	for {
		told := c.mark()
		if pairLevels[told] <= level {
			return left
		}
		c.at++
		right := c.expression(pairLevels[told])
		c.note(pairRules[told])
		left = &piece{told: told, left: left, right: right}
	}
}

func (c *climber) operand() *piece {
	told := c.mark()
	if told == "<" || told == ">" {
		c.at++
		of := c.expression(0)
		c.note(prefixRules[told])
		return &piece{told: told, right: of}
	}
	of := c.unit()
	c.note(11)
	return of
}

func (c *climber) unit() *piece {
	if c.at == len(c.list) {
		panic(stuck(c.at))
	}
	token := c.list[c.at]
	c.at++
	switch {
	case token.Kind == lexer.Number || token.Kind == lexer.Char:
		c.note(16)
		return &piece{told: fmt.Sprint(token.Value), leaf: func(names, int) (int, bool) { return token.Value, true }}
	case token.Kind == lexer.Name:
		c.note(17)
		return &piece{told: token.Text, leaf: func(have names, _ int) (int, bool) { v, ok := have[token.Text]; return v, ok }}
	case token.Text == "*":
		c.note(18)
		return &piece{told: "*", leaf: func(_ names, here int) (int, bool) { return here, true }}
	case token.Text == "(":
		within := c.expression(0)
		if c.mark() != ")" {
			panic(stuck(c.at))
		}
		c.at++
		c.note(19)
		return within
	case prefixRules[token.Text] > 10:
		of := c.unit()
		c.note(prefixRules[token.Text])
		return &piece{told: token.Text, right: of}
	}
	panic(stuck(c.at - 1))
}

func (p *piece) text() string {
	switch {
	case p.leaf != nil:
		return p.told
	case p.left != nil:
		return "(" + p.left.text() + p.told + p.right.text() + ")"
	case p.told == "<" || p.told == ">":
		return "(" + p.told + p.right.text() + ")"
	}
	return p.told + p.right.text()
}

var leastBig, mostBig = big.NewInt(least), big.NewInt(most)

// worth: in whole numbers without an end.
func (p *piece) worth(have names, here int) (*big.Int, api.Errno) {
	if p.leaf != nil {
		value, there := p.leaf(have, here)
		if !there {
			return nil, api.ErrUndefined
		}
		return ranged(big.NewInt(int64(value)))
	}
	left := new(big.Int)
	e := api.OK
	if p.left != nil {
		left, e = p.left.worth(have, here)
	}
	if e != api.OK {
		return nil, e
	}
	right, e := p.right.worth(have, here)
	if e != api.OK {
		return nil, e
	}
	if p.left == nil {
		return ranged(prefixed(p.told, right))
	}
	if (p.told == "<<" || p.told == ">>") && (right.Sign() < 0 || right.Cmp(big.NewInt(31)) > 0) {
		return nil, api.ErrRange
	}
	if p.told == "/" && right.Sign() == 0 {
		return nil, api.ErrZero
	}
	return ranged(paired(p.told, left, right))
}

func ranged(x *big.Int) (*big.Int, api.Errno) {
	if x.Cmp(leastBig) < 0 || x.Cmp(mostBig) > 0 {
		return nil, api.ErrRange
	}
	return x, api.OK
}

func prefixed(told string, x *big.Int) *big.Int {
	z := new(big.Int)
	switch told {
	case "-":
		return z.Neg(x)
	case "+":
		return x
	case "~":
		return z.Sub(z.Neg(x), big.NewInt(1))
	case "!":
		if x.Sign() == 0 {
			return z.SetInt64(1)
		}
		return z
	case "<":
		return z.Mod(x, big.NewInt(256))
	}
	return z.Mod(z.Div(x, big.NewInt(256)), big.NewInt(256)) // of Euclid, which rounds down here
}

func paired(told string, x, y *big.Int) *big.Int {
	z := new(big.Int)
	switch told {
	case "|":
		return z.Or(x, y)
	case "^":
		return z.Xor(x, y)
	case "&":
		return z.And(x, y)
	case "<<":
		return z.Mul(x, z.Exp(big.NewInt(2), y, nil))
	case ">>":
		return z.Div(x, new(big.Int).Exp(big.NewInt(2), y, nil))
	case "+":
		return z.Add(x, y)
	case "-":
		return z.Sub(x, y)
	case "*":
		return z.Mul(x, y)
	}
	return z.Quo(x, y)
}

// wantWorth: of a tree what the pieces are worth.
func wantWorth(t *testing.T, tree *expr.Tree, whole *piece, have names, here int) {
	t.Helper()
	value, e := whole.worth(have, here)
	want := 0
	if e == api.OK {
		want = int(value.Int64())
	}
	wantEval(t, tree, have, here, want, e)
}

// againstClimber: a tree, or where it fails, of tokens that are all symbols.
func againstClimber(t *testing.T, list tokens) {
	t.Helper()
	whole, rules, at, ok := climbed(list)
	if !ok {
		wantFault(t, list, at, api.ErrSyntax)
		return
	}
	tree := treeOf(t, list)
	if tree.Text() != whole.text() {
		t.Errorf("the text of %v is %q, not %q", list, tree.Text(), whole.text())
	}
	wantList(t, whole.text(), tree.Rules(), rules...)
	var all []string
	for _, token := range list {
		if token.Kind == lexer.Name && !slices.Contains(all, token.Text) {
			all = append(all, token.Text)
		}
	}
	wantList(t, whole.text(), tree.Names(), all...)
	if tree.Known() != (len(all) == 0 && !slices.Contains(rules, 18)) {
		t.Errorf("%s: Known is %v", whole.text(), tree.Known())
	}
	for _, here := range []int{0, 7, most, underLeast} {
		wantWorth(t, tree, whole, nil, here)
		wantWorth(t, tree, whole, names{"a": 300, "b": -7}, here)
		wantWorth(t, tree, whole, names{"a": least, "b": 31, "c": overMost}, here)
	}
}

// P5, P1603: all short rows of symbols.
func TestAllShortExpressions(t *testing.T) {
	symbols := tokens{number(5), name("a")}
	for _, told := range marks {
		symbols = append(symbols, mark(told))
	}
	rows := []tokens{nil}
	for range 3 {
		var longer []tokens
		for _, row := range rows {
			againstClimber(t, row)
			for _, symbol := range symbols {
				longer = append(longer, append(slices.Clone(row), symbol))
			}
		}
		rows = longer
	}
	for _, row := range rows {
		againstClimber(t, row)
	}
}

// grown: a random expression.
func grown(r *rand.Rand, depth int) tokens {
	values := []int{0, 1, 2, 3, 8, 31, 32, 255, 256, 65535, 65536, 1 << 31, most, -1, least}
	switch kind := r.Intn(12); {
	case depth == 0 && kind < 6:
		return tokens{number(values[r.Intn(len(values))])}
	case depth == 0 && kind < 11:
		return tokens{name(string(rune('a' + r.Intn(3))))}
	case depth == 0:
		return tokens{mark("*")}
	case kind < 2:
		return slices.Concat(tokens{mark("(")}, grown(r, depth-1), tokens{mark(")")})
	case kind < 4:
		return append(tokens{mark(prefixes[r.Intn(len(prefixes))])}, grown(r, depth-1)...)
	}
	return slices.Concat(grown(r, depth-1), tokens{mark(pairs[r.Intn(len(pairs))])}, grown(r, r.Intn(depth)))
}

// P5, P1602: random expressions, and such that a token was put into, taken out of, or changed in.
func TestRandomExpressions(t *testing.T) {
	r := rand.New(rand.NewSource(16))
	for range 3000 {
		list := grown(r, r.Intn(6))
		if len(list) > api.MaxLine-1 {
			continue
		}
		againstClimber(t, list)
		at := r.Intn(len(list))
		other := grown(r, 0)
		if r.Intn(2) == 0 {
			other = tokens{mark(marks[r.Intn(len(marks))])}
		}
		switch r.Intn(3) {
		case 0:
			list = slices.Insert(list, at, other...)
		case 1:
			list = slices.Delete(list, at, at+1)
		case 2:
			list[at] = other[0]
		}
		againstClimber(t, list)
	}
}

// P1602: of random expressions that a line holds.
func TestRandomTextsThereAndBack(t *testing.T) {
	r := rand.New(rand.NewSource(1602))
	for range 1000 {
		list := grown(r, r.Intn(5))
		tree, _, e := expr.Parse(list)
		if e == api.OK && len(tree.Text()) <= api.MaxLine {
			wantBack(t, list, names{"a": 300, "b": -7, "c": 3}, 7)
		}
	}
}

// P1603, F16.3: each operation at pairs of telling numbers.
func TestOperationsAtEdges(t *testing.T) {
	edges := append([]int{
		least, least + 1, -1 << 30, -65536, -65535, -32768, -257, -256, -255, -129, -32, -31, -8, -7, -2, -1, 0, 1, 2, 3, 7, 8, 15, 16, 30, 31, 32, 33, 63, 64,
		127, 128, 255, 256, 257, 32767, 32768, 65535, 65536, 65537, 1<<30 - 1, 1 << 30, 1<<31 - 1, 1 << 31, 1<<31 + 1, 3037000499, 3037000500, most - 1, most,
	}, beyond...)
	for _, told := range pairs {
		list := tokens{name("a"), mark(told), name("b")}
		tree := treeOf(t, list)
		whole, _, _, _ := climbed(list)
		for _, a := range edges {
			for _, b := range edges {
				wantWorth(t, tree, whole, names{"a": a, "b": b}, 0)
			}
		}
	}
	for _, told := range prefixes {
		list := tokens{mark(told), name("a")}
		tree := treeOf(t, list)
		whole, _, _, _ := climbed(list)
		for _, a := range edges {
			wantWorth(t, tree, whole, names{"a": a}, 0)
		}
	}
}
