package grammar_test

import (
	"fmt"
	"math/rand"
	"strings"
	"testing"

	"orrery/api"
	"orrery/grammar"
)

// wantRefused: by Parse, with this place.
func wantRefused(t *testing.T, text string, at int, err api.Errno) {
	t.Helper()
	g, n, e := grammar.Parse(text)
	if g != nil || n != at || e != err {
		t.Errorf("Parse(%.120q) = %v, %d, %v, not nil, %d, %v", text, g != nil, n, e, at, err)
	}
}

// P1301: symbols stand in the order in which the text first has them, terminals, the end, nonterminals.
func TestParseOrders(t *testing.T) {
	for _, c := range []struct{ text, names, start string }{
		{"S -> a b c", "a b c $ S", "S"},
		{"S -> c b a | b d", "c b a d $ S", "S"},
		{"S -> B A\nA -> a\nB -> b", "a b $ S B A", "S"},
		{"S -> x A y\nC -> A z S x w\nA -> y v C", "x y z w v $ S A C", "S"},
		{"Z -> a\nS -> Z S\nS -> b S", "a b $ Z S", "Z"},
		{"S -> T\nU ->\nT -> U", "$ S T U", "S"},
		{"S -> S", "$ S", "S"},
		{"b -> A\na -> B", "A B $ b a", "b"},
	} {
		g := parsed(t, c.text)
		wantText(t, c.text, toldNames(g), c.names)
		wantText(t, "start of "+c.text, told(g, []int{g.Start()}), c.start)
		terminals := len(strings.Fields(c.names[:strings.Index(c.names, "$")])) + 1
		if g.Terminals() != terminals {
			t.Errorf("%q: %d terminals, not %d", c.text, g.Terminals(), terminals)
		}
	}
}

// P1301: rules stand in the order of the text; an alternative may be nothing, at any place.
func TestParseAlternatives(t *testing.T) {
	for _, c := range []struct {
		text  string
		rules []string
	}{
		{"S ->", []string{"S ->"}},
		{"S -> |", []string{"S ->", "S ->"}},
		{"S -> | |", []string{"S ->", "S ->", "S ->"}},
		{"S -> | a", []string{"S ->", "S -> a"}},
		{"S -> a |", []string{"S -> a", "S ->"}},
		{"S -> a | | b", []string{"S -> a", "S ->", "S -> b"}},
		{"S -> | a b | | c |", []string{"S ->", "S -> a b", "S ->", "S -> c", "S ->"}},
		{"S -> a | a\nS -> a", []string{"S -> a", "S -> a", "S -> a"}},
		{"S -> T\nT -> a | S\nS -> b T | c", []string{"S -> T", "T -> a", "T -> S", "S -> b T", "S -> c"}},
	} {
		wantTexts(t, c.text, toldRules(parsed(t, c.text)), c.rules...)
	}
}

// Words: what says nothing, and what stands between words.
func TestParseLines(t *testing.T) {
	for _, text := range []string{
		"S -> a b | S\nT -> S",
		"S -> a b | S\nT -> S\n",
		"\nS -> a b | S\n\n\nT -> S\n\n",
		" \t\nS -> a b | S\n\t\n  \nT -> S\n ",
		"# -> wrong $ ->\nS -> a b | S\n#\n  #x\n\t# \x00\xff\r |\nT -> S\n#T -> b",
		"\tS\t->\ta\tb\t|\tS\t\nT\t->\tS",
		"   S  ->\t a\t  b \t| S\t \n \t T ->   S  ",
		"S -> a b\nS -> S\nT -> S",
	} {
		g := parsed(t, text)
		wantText(t, text, toldNames(g), "a b $ S T")
		wantTexts(t, text, toldRules(g), "S -> a b", "S -> S", "T -> S")
	}
	g := parsed(t, "S -> # #a a# | #", "# -> S")
	wantTexts(t, "words that begin with #", toldRules(g), "S -> # #a a#", "S -> #")
	wantText(t, "words that begin with #", toldNames(g), "# #a a# $ S")
}

// Words: what is a name.
func TestParseNames(t *testing.T) {
	longest := strings.Repeat("n", api.MaxName)
	for _, name := range []string{"!", "~", "$$", "$a", "->>", "-->", "-", ">", "||", "a|", "|a", "a->b", "\"", "\\", longest, longest[1:], "!~" + longest[2:]} {
		wantText(t, name, toldNames(parsed(t, "S -> "+name)), name+" $ S")
		wantText(t, name, toldNames(parsed(t, name+" -> "+name)), "$ "+name)
	}
	for _, word := range []string{"$", "->", "\x7f", "a\x7f", "\x1f", "a\x1fb", "\x00", "\r", "a\r", "\v", "\f", "\x80", "a\xff", "ä", "\u00a0", "\u2003", longest + "n"} {
		wantRefused(t, "S -> "+word, 0, api.ErrGrammar)
		wantRefused(t, "S -> a\nS -> a | "+word+" b", 1, api.ErrGrammar)
		wantRefused(t, "S -> a\n\n"+word+" -> a", 2, api.ErrGrammar)
	}
	wantRefused(t, "| -> a", 0, api.ErrGrammar)
}

// Each byte as a name of its own, and in the midst of one.
func TestParseBytes(t *testing.T) {
	for b := range 256 {
		word := string([]byte{byte(b)})
		isName := b > 0x20 && b < 0x7f && b != '$' && b != '|'
		isOther := b == ' ' || b == '\t' || b == '\n' || b == '|'
		if _, _, err := grammar.Parse("S -> " + word); (err == api.OK) != (isName || isOther) {
			t.Errorf("byte %#x: %v", b, err)
		}
		inName := b > 0x20 && b < 0x7f
		g, at, err := grammar.Parse("S -> x\nS -> a" + word + "b")
		switch {
		case inName:
			if g == nil || g.Symbols() != 4 {
				t.Errorf("byte %#x in the midst: %v, %d", b, err, g.Symbols())
			}
		case b == ' ' || b == '\t':
			if g == nil || g.Symbols() != 5 {
				t.Errorf("byte %#x in the midst: %v, %d", b, err, g.Symbols())
			}
		default:
			wanted := 1
			if b == '\n' {
				wanted = 2
			}
			if err != api.ErrGrammar || at != wanted {
				t.Errorf("byte %#x in the midst: %v, %d", b, err, at)
			}
		}
	}
}

// P1301: the number of the first line that is none.
func TestParseWrongLines(t *testing.T) {
	for _, c := range []struct {
		text string
		at   int
	}{
		{"a b", 0},
		{"a", 0},
		{"->", 0},
		{"-> a", 0},
		{"-> ->", 0},
		{"S - > a", 0},
		{"S a -> b", 0},
		{"S -->", 0},
		{"S->a", 0},
		{"S -> a -> b", 0},
		{"S -> a $", 0},
		{"S | a", 0},
		{"S -> a\nS", 1},
		{"S -> a\n\n# x\nT =\nS -> ->", 3},
		{"S -> a\nb\nc", 1},
		{"\n\n\nS", 3},
		{"S -> a\n | b", 1},
		{"S -> a\r\nT -> b\r\n", 0},
		{"S -> a # $", 0},
	} {
		wantRefused(t, c.text, c.at, api.ErrGrammar)
	}
}

// P1301: the number of lines, if no line has a rule.
func TestParseNoRule(t *testing.T) {
	for text, lines := range map[string]int{"": 1, "\n": 2, " \t": 1, "# S -> a": 1, "#\n\n#\n": 4, strings.Repeat("\n", 100): 101} {
		wantRefused(t, text, lines, api.ErrGrammar)
	}
	wantRefused(t, strings.Repeat("\n", api.MaxText), api.MaxText+1, api.ErrGrammar)
	wantRefused(t, strings.Repeat(" ", api.MaxText), 1, api.ErrGrammar)
}

// P1301: texts of MaxText bytes, and of one more.
func TestParseLongTexts(t *testing.T) {
	for _, text := range []string{"S -> a", "S -> a\n#", "S -> a | b\nT -> S\n"} {
		long := text + strings.Repeat(" ", api.MaxText-len(text))
		if g := parsed(t, long); len(long) != api.MaxText || g.Start() < 0 {
			t.Errorf("%d bytes, start %d", len(long), g.Start())
		}
		wantRefused(t, long+" ", 0, api.ErrBig)
		wantRefused(t, " "+long, 0, api.ErrBig)
	}
	wantRefused(t, strings.Repeat("\n", api.MaxText+1), 0, api.ErrBig)
	wantRefused(t, "S -> a\nx\n"+strings.Repeat("\n", api.MaxText), 0, api.ErrBig)
	many := "S -> " + strings.Repeat("a ", (api.MaxText-5)/2)
	if g := parsed(t, many); len(g.Rules()[0].Right) != (api.MaxText-5)/2 {
		t.Errorf("%d symbols", len(g.Rules()[0].Right))
	}
}

// ruleLines: rules of nothing, some in one line and some in lines of their own.
func ruleLines(rules int) string {
	half := rules / 2
	return "S -> " + strings.Repeat("| ", half-1) + "\n" + strings.Repeat("T ->\n", rules-half)
}

// nameLine: a rule with terminals of numbered names, so that there are this many symbols in all.
func nameLine(symbols int) string {
	var b strings.Builder
	b.WriteString("S ->")
	for n := range symbols - 2 {
		fmt.Fprintf(&b, " t%d", n)
	}
	return b.String()
}

// P1301: MaxRules rules and MaxSymbols symbols, and one more.
func TestParseLimits(t *testing.T) {
	if g := parsed(t, ruleLines(api.MaxRules)); len(g.Rules()) != api.MaxRules {
		t.Errorf("%d rules", len(g.Rules()))
	}
	wantRefused(t, ruleLines(api.MaxRules+1), api.MaxRules/2+3, api.ErrBig)
	wantRefused(t, "\n\nS ->"+strings.Repeat(" |", api.MaxRules), 3, api.ErrBig)
	g := parsed(t, nameLine(api.MaxSymbols))
	if g.Symbols() != api.MaxSymbols || g.Terminals() != api.MaxSymbols-1 || g.Start() != api.MaxSymbols-1 {
		t.Errorf("%d symbols, %d terminals, start %d", g.Symbols(), g.Terminals(), g.Start())
	}
	wantRefused(t, nameLine(api.MaxSymbols+1), 1, api.ErrBig)
	wantRefused(t, nameLine(api.MaxSymbols)+"\nT -> S", 2, api.ErrBig)
	g = parsed(t, nameLine(api.MaxSymbols-1)+"\nT -> S\nT -> T")
	if g.Symbols() != api.MaxSymbols {
		t.Errorf("%d symbols", g.Symbols())
	}
	var b strings.Builder
	for n := range api.MaxSymbols - 1 {
		fmt.Fprintf(&b, "N%d -> N%d\n", n, n+1)
	}
	wantRefused(t, b.String(), api.MaxSymbols, api.ErrBig)
	b.WriteString("N127 ->")
	wantRefused(t, b.String(), api.MaxSymbols, api.ErrBig)
}

// P1301: of several faults the one that is named first.
func TestParseFirstFault(t *testing.T) {
	many := ruleLines(api.MaxRules + 1)
	names := nameLine(api.MaxSymbols + 1)
	wantRefused(t, many+"x", strings.Count(many, "\n"), api.ErrGrammar)
	wantRefused(t, names+"\n"+many+"\nS -> $", strings.Count(many, "\n")+2, api.ErrGrammar)
	wantRefused(t, "$\n"+names, 0, api.ErrGrammar)
	wantRefused(t, names+"\n#"+strings.Repeat(" ", api.MaxText), 0, api.ErrBig)
	wantRefused(t, "#\nS -> ->\n"+strings.Repeat(" ", api.MaxText), 0, api.ErrBig)
	wantRefused(t, strings.Repeat(" ", api.MaxText+1), 0, api.ErrBig)
}

// P1301: texts that are laid out at random tell the rules of which they were made.
func TestParseLaidOut(t *testing.T) {
	r := rand.New(rand.NewSource(1301))
	names := []string{"S", "T", "U", "a", "b", "#c", "|d", "->e"}
	for range 400 {
		var b strings.Builder
		var rules, order []string
		blank := func(least int) {
			b.WriteString(strings.Repeat(" ", least))
			for r.Intn(3) == 0 {
				b.WriteByte(" \t"[r.Intn(2)])
			}
		}
		left := map[string]bool{}
		for range 1 + r.Intn(4) {
			if r.Intn(3) == 0 {
				b.WriteString([]string{"\n", " \t\n", "#\n", "\t# a $ |\n"}[r.Intn(4)])
			}
			name := names[r.Intn(3)]
			left[name] = true
			order = append(order, name)
			blank(0)
			b.WriteString(name)
			blank(1)
			b.WriteString("->")
			for i := range 1 + r.Intn(3) {
				if i > 0 {
					blank(1)
					b.WriteString("|")
				}
				rule := name + " ->"
				for range r.Intn(4) {
					word := names[r.Intn(len(names))]
					blank(1)
					b.WriteString(word)
					rule += " " + word
					order = append(order, word)
				}
				rules = append(rules, rule)
			}
			blank(0)
			b.WriteString("\n")
		}
		g := parsed(t, b.String())
		wantTexts(t, b.String(), toldRules(g), rules...)
		wantText(t, b.String(), toldNames(g), strings.Join(inOrder(order, left), " "))
		wantText(t, b.String(), told(g, []int{g.Start()}), order[0])
	}
}

// inOrder: the terminals, the end, and the nonterminals of these words, each once.
func inOrder(words []string, left map[string]bool) []string {
	var terminals, others []string
	seen := map[string]bool{}
	for _, w := range words {
		if seen[w] {
			continue
		}
		seen[w] = true
		if left[w] {
			others = append(others, w)
		} else {
			terminals = append(terminals, w)
		}
	}
	return append(append(terminals, "$"), others...)
}
