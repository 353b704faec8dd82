package grammar_test

import (
	"math/rand"
	"slices"
	"strings"
	"testing"

	"orrery/api"
	"orrery/grammar"
)

// P1303: a line for each nonterminal that has rules, where its first one stands.
func TestText(t *testing.T) {
	for _, c := range []struct{ text, want string }{
		{"E -> E + T | T\nT -> T * F | F\nF -> ( E ) | id", "E -> E + T | T\nT -> T * F | F\nF -> ( E ) | id\n"},
		{"S ->", "S ->\n"},
		{" S  ->  |  a ", "S -> | a\n"},
		{"S -> a |", "S -> a |\n"},
		{"S -> | |", "S -> | |\n"},
		{"S -> a | | b", "S -> a | | b\n"},
		{"S -> a\nS -> b\n\nS -> |", "S -> a | b | |\n"},
		{"# x\nS -> B A\nA -> a\nB -> b\n", "S -> B A\nA -> a\nB -> b\n"},
		{"S -> T\nT -> a\nS -> b\nT ->\nS -> S", "S -> T | b | S\nT -> a |\n"},
	} {
		wantText(t, "Text of "+c.text, parsed(t, c.text).Text(), c.want)
	}
	g := made(t, list{"a", "b"}, list{"T", "S", "bare"}, "S", list{"T", "bare"}, list{"S"}, list{"T"}, list{"S", "a", "S"})
	wantText(t, "Text", g.Text(), "T -> bare |\nS -> | a S\n")
	g = made(t, list{"a"}, list{"#S"}, "#S", list{"#S", "a"})
	wantText(t, "Text", g.Text(), "#S -> a\n")
}

// P1303: Name and Find, one the other turned round, the end among them.
func TestNameFind(t *testing.T) {
	for _, g := range []*grammar.Grammar{sums(t), parsed(t, "S ->"), parsed(t, nameLine(api.MaxSymbols)), made(t, many("t", 9), many("N", 9), "N3", list{"N5"})} {
		for s := range g.Symbols() {
			name, found := g.Name(s)
			n, there := g.Find(name)
			if !found || !there || n != s {
				t.Errorf("symbol %d: %q, %v; %d, %v", s, name, found, n, there)
			}
			if (name == "$") != (s == g.Terminals()-1) {
				t.Errorf("symbol %d of %d: %q", s, g.Terminals(), name)
			}
		}
		for _, s := range []int{-1, g.Symbols(), g.Symbols() + 1, 1 << 20, -1 << 63, 1<<63 - 1} {
			if name, found := g.Name(s); name != "" || found {
				t.Errorf("Name(%d) = %q, %v", s, name, found)
			}
			wantInts(t, "Of none", g.Of(s), nil)
		}
		for _, name := range []string{"", "->", "|", "none", "e", " id", "id ", "$$"} {
			if n, found := g.Find(name); n != 0 || found {
				t.Errorf("Find(%q) = %d, %v", name, n, found)
			}
		}
	}
}

// P1303: Of tells the numbers of a nonterminal's rules, of others none.
func TestOf(t *testing.T) {
	g := parsed(t, "S -> T | a", "T -> b", "S -> c", "T ->", "U -> S")
	for name, of := range map[string][]int{"S": {0, 1, 3}, "T": {2, 4}, "U": {5}, "a": nil, "c": nil, "$": nil} {
		wantInts(t, "Of "+name, g.Of(number(t, g, name)), of)
	}
	g = made(t, list{"a"}, list{"S", "bare"}, "S", list{"S"})
	wantInts(t, "Of bare", g.Of(3), nil)
	wantInts(t, "Of S", g.Of(2), []int{0})
}

// P1303: Rules tells them by numbers.
func TestRules(t *testing.T) {
	g := parsed(t, "S -> T a | ", "T -> S S b")
	want := []grammar.Rule{{Left: 3, Right: []int{4, 0}}, {Left: 3}, {Left: 4, Right: []int{3, 3, 1}}}
	got := g.Rules()
	if len(got) != len(want) {
		t.Fatalf("%v", got)
	}
	for n, r := range got {
		if r.Left != want[n].Left || !slices.Equal(r.Right, want[n].Right) {
			t.Errorf("rule %d: %v, not %v", n, r, want[n])
		}
	}
}

// P1308: what Text tells is parsed to the same rules, if they stand together, the start's first, and all nonterminals have some.
func TestThereAndBack(t *testing.T) {
	r := rand.New(rand.NewSource(1308))
	for range 500 {
		terminals, others := many("t", r.Intn(4)), many("N", 1+r.Intn(4))
		all := append(slices.Clone(terminals), others...)
		order := r.Perm(len(others))
		var rules rows
		for _, n := range order {
			for range 1 + r.Intn(3) {
				rule := list{others[n]}
				for range r.Intn(4) {
					rule = append(rule, all[r.Intn(len(all))])
				}
				rules = append(rules, rule)
			}
		}
		g := made(t, terminals, others, others[order[0]], rules...)
		h := parsed(t, g.Text())
		wantTexts(t, g.Text(), toldRules(h), toldRules(g)...)
		wantText(t, "start", told(h, []int{h.Start()}), told(g, []int{g.Start()}))
		wantText(t, "Text of Text", h.Text(), g.Text())
	}
}

// P1308: at the limits, and where the text is too long.
func TestThereAndBackLimits(t *testing.T) {
	for _, text := range []string{nameLine(api.MaxSymbols), ruleLines(api.MaxRules), "S ->" + strings.Repeat(" a", 1000)} {
		g := parsed(t, text)
		h := parsed(t, g.Text())
		wantTexts(t, "rules", toldRules(h), toldRules(g)...)
	}
	rule := list{"S"}
	for range (api.MaxText - 5) / 2 {
		rule = append(rule, "a")
	}
	g := made(t, list{"a"}, list{"S"}, "S", rule)
	if text := g.Text(); len(text) != api.MaxText-1 {
		t.Errorf("%d bytes", len(text))
	}
	parsed(t, g.Text())
	g = made(t, list{"a"}, list{"S"}, "S", append(rule, "a"))
	if text := g.Text(); text != "S ->"+strings.Repeat(" a", len(rule))+"\n" {
		t.Errorf("%d bytes", len(text))
	}
	wantRefused(t, g.Text(), 0, api.ErrBig)
}
