package grammar_test

import (
	"strconv"
	"strings"
	"testing"

	"orrery/api"
	"orrery/grammar"
)

type list = []string
type rows = [][]string

// P1302: names stand as they are given, with the end between; symbols need no rule.
func TestNewNames(t *testing.T) {
	g := made(t, list{"b", "a", "unused"}, list{"T", "S", "bare"}, "S", list{"S", "a", "T"}, list{"T"}, list{"S", "bare"})
	wantText(t, "names", toldNames(g), "b a unused $ T S bare")
	wantTexts(t, "rules", toldRules(g), "S -> a T", "T ->", "S -> bare")
	wantInts(t, "counts", []int{g.Terminals(), g.Symbols(), g.Start()}, []int{4, 7, 5})
	g = made(t, nil, list{"S"}, "S", list{"S"})
	wantText(t, "names", toldNames(g), "$ S")
	wantInts(t, "counts", []int{g.Terminals(), g.Symbols(), g.Start()}, []int{1, 2, 1})
	g = made(t, list{"#", "a"}, list{"#S"}, "#S", list{"#S", "#"})
	wantText(t, "names", toldNames(g), "# a $ #S")
	g = made(t, list{"a"}, list{"S", "T"}, "T", list{"S", "a"})
	wantText(t, "a start without a rule", told(g, []int{g.Start()}), "T")
}

func wantNotMade(t *testing.T, what string, terminals, others list, start string, rules rows, want api.Errno) {
	t.Helper()
	if g, err := grammar.New(terminals, others, start, rules); g != nil || err != want {
		t.Errorf("New, %s: %v, %v, not nil, %v", what, g != nil, err, want)
	}
}

// P1302: what makes no grammar.
func TestNewWrong(t *testing.T) {
	rule := list{"S", "a"}
	for _, c := range []struct {
		what              string
		terminals, others list
		start             string
		rules             rows
	}{
		{"a terminal twice", list{"a", "b", "a"}, list{"S"}, "S", rows{rule}},
		{"a nonterminal twice", list{"a"}, list{"S", "T", "S"}, "S", rows{rule}},
		{"a name in both lists", list{"a", "T"}, list{"S", "T"}, "S", rows{rule}},
		{"a start that is none", list{"a"}, list{"S"}, "T", rows{rule}},
		{"a start without a name", list{"a"}, list{"S"}, "", rows{rule}},
		{"a start that is a terminal", list{"b", "a"}, list{"S"}, "a", rows{rule}},
		{"a start that is the first terminal", list{"a"}, list{"S"}, "a", rows{rule}},
		{"a start that is the end", list{"a"}, list{"S"}, "$", rows{rule}},
		{"a rule without a name", list{"a"}, list{"S"}, "S", rows{rule, {}}},
		{"a rule that is nil", list{"a"}, list{"S"}, "S", rows{nil, rule}},
		{"a rule of a terminal", list{"a"}, list{"S"}, "S", rows{rule, {"a", "S"}}},
		{"a rule of the last terminal", list{"b", "a"}, list{"S"}, "S", rows{rule, {"a"}}},
		{"a rule of the end", list{"a"}, list{"S"}, "S", rows{rule, {"$", "S"}}},
		{"a rule of no symbol", list{"a"}, list{"S"}, "S", rows{{"T", "a"}, rule}},
		{"a rule with no symbol", list{"a"}, list{"S"}, "S", rows{rule, {"S", "a", "b"}}},
		{"a rule with an empty name", list{"a"}, list{"S"}, "S", rows{{"S", ""}}},
		{"a rule with the end", list{"a"}, list{"S"}, "S", rows{{"S", "a", "$"}}},
		{"a rule with a bar", list{"a"}, list{"S"}, "S", rows{{"S", "a", "|", "a"}}},
		{"no rule", list{"a"}, list{"S"}, "S", nil},
		{"no rule, in a list", list{"a"}, list{"S"}, "S", rows{}},
		{"nothing", nil, nil, "", nil},
		{"no nonterminal", list{"a"}, nil, "a", rows{{"a"}}},
		{"a start that is none, and no terminal", nil, list{"S"}, "T", rows{{"S"}}},
		{"a start that is the end, and no terminal", nil, list{"S"}, "$", rows{{"S"}}},
		{"a rule of no symbol, and no terminal", nil, list{"S"}, "S", rows{{"T"}}},
		{"a rule of the end, and no terminal", nil, list{"S"}, "S", rows{{"S"}, {"$"}}},
	} {
		wantNotMade(t, c.what, c.terminals, c.others, c.start, c.rules, api.ErrGrammar)
	}
}

// P1302: each name must be one, wherever it stands.
func TestNewWrongNames(t *testing.T) {
	longest := strings.Repeat("n", api.MaxName)
	for _, name := range []string{"", " ", "a b", "\t", "a\n", "$", "->", "|", "\x20", "\x7f", "x\x7f", "\x80", "ä", "\x00", longest + "n"} {
		what := "the name " + strconv.Quote(name)
		wantNotMade(t, what, list{"a", name}, list{"S"}, "S", rows{{"S", "a"}}, api.ErrGrammar)
		wantNotMade(t, what, list{name, "a"}, list{"S"}, "S", rows{{"S", name}}, api.ErrGrammar)
		wantNotMade(t, what, list{"a"}, list{"S", name}, "S", rows{{"S", "a"}}, api.ErrGrammar)
		wantNotMade(t, what, list{"a"}, list{name, "S"}, name, rows{{name, "a"}}, api.ErrGrammar)
	}
	for _, name := range []string{"!", "~", "#", "$$", "->>", "||", longest} {
		g := made(t, list{name}, list{"S"}, "S", list{"S", name, name})
		wantTexts(t, name, toldRules(g), "S -> "+name+" "+name)
		g = made(t, list{"S"}, list{name}, name, list{name, "S", name})
		wantTexts(t, name, toldRules(g), name+" -> S "+name)
	}
}

// many: this many names, each with the letter ahead.
func many(letter string, count int) list {
	var names list
	for n := range count {
		names = append(names, letter+strconv.Itoa(n))
	}
	return names
}

// P1302: MaxRules rules and MaxSymbols symbols, and one more; what is wrong is told ahead of what is too much.
func TestNewLimits(t *testing.T) {
	rules := rows{}
	for range api.MaxRules {
		rules = append(rules, list{"S", "a"})
	}
	if g := made(t, list{"a"}, list{"S"}, "S", rules...); len(g.Rules()) != api.MaxRules {
		t.Errorf("%d rules", len(g.Rules()))
	}
	more := append(rows{{"S"}}, rules...)
	wantNotMade(t, "a rule too many", list{"a"}, list{"S"}, "S", more, api.ErrBig)
	for _, terminals := range []int{0, 1, 63, 64, 65, 126} {
		others := api.MaxSymbols - 1 - terminals
		g := made(t, many("t", terminals), many("N", others), "N0", list{"N0"})
		if g.Symbols() != api.MaxSymbols || g.Terminals() != terminals+1 {
			t.Errorf("%d symbols, %d terminals", g.Symbols(), g.Terminals())
		}
		wantNotMade(t, "a terminal too many", many("t", terminals+1), many("N", others), "N0", rows{{"N0"}}, api.ErrBig)
		wantNotMade(t, "a nonterminal too many", many("t", terminals), many("N", others+1), "N0", rows{{"N0"}}, api.ErrBig)
	}
	big := many("t", 1000)
	wantNotMade(t, "a wrong name", append(many("t", 1000), "$"), list{"S"}, "S", more, api.ErrGrammar)
	wantNotMade(t, "a name twice", append(many("t", 1000), "t5"), list{"S"}, "S", more, api.ErrGrammar)
	wantNotMade(t, "a wrong start", big, list{"S"}, "t3", rows{{"S"}}, api.ErrGrammar)
	wantNotMade(t, "a wrong last rule", append(big, "a"), list{"S"}, "S", append(more, list{"S", "x"}), api.ErrGrammar)
	wantNotMade(t, "no rule", big, list{"S"}, "S", nil, api.ErrGrammar)
	wantNotMade(t, "both too many", append(big, "a"), list{"S"}, "S", more, api.ErrBig)
}
