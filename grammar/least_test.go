package grammar_test

import (
	"fmt"
	"math/rand"
	"strings"
	"testing"

	"orrery/api"
	"orrery/grammar"
)

func wantLeast(t *testing.T, g *grammar.Grammar, name, want string) {
	t.Helper()
	got, found := g.Least(number(t, g, name))
	if told(g, got) != want || !found {
		t.Errorf("%.200q: Least(%s): %.100q, %v, not %.100q", g.Text(), name, told(g, got), found, want)
	}
}

func wantNoLeast(t *testing.T, g *grammar.Grammar, symbol int) {
	t.Helper()
	if got, found := g.Least(symbol); len(got) != 0 || found {
		t.Errorf("%.200q: Least(%d): %d symbols, %v", g.Text(), symbol, len(got), found)
	}
}

// P1306: the shortest text, and of those with one length the least by its numbers.
func TestLeast(t *testing.T) {
	for _, c := range []struct{ text, name, want string }{
		{"S -> a", "a", "a"},
		{"S -> a", "$", "$"},
		{"S ->", "S", ""},
		{"S -> a S |", "S", ""},
		{"S -> a a | b", "S", "b"},
		{"S -> b | a", "S", "b"},
		{"X -> a b\nS -> b | a", "S", "a"},
		{"X -> a b\nS -> b a | a b | b b", "S", "a b"},
		{"X -> a b c\nS -> a c | T c | a T\nT -> b | c", "S", "a b"},
		{"X -> a b\nA -> B | b a\nB -> A | b b | a b", "A", "a b"},
		{"X -> a b\nA -> B\nB -> C | b\nC -> A | a", "A", "a"},
		{"X -> a b\nA -> B\nB -> C | b\nC -> A | a", "B", "a"},
		{"X -> a b\nS -> N T N | b\nN ->\nT -> N a N", "S", "a"},
		{"X -> a b\nS -> S S | S a | b b", "S", "b b"},
		{"S -> ( S ) | S S | ( )", "S", "( )"},
		{"X -> a b\nS -> T U\nT -> a | a a\nU -> b a | a b", "S", "a a b"},
		{"X -> a b\nS -> T b | b T\nT -> a b | a a", "S", "a a b"},
		{"S -> Q | a a a\nQ -> Q b", "S", "a a a"},
	} {
		wantLeast(t, parsed(t, c.text), c.name, c.want)
	}
}

// P1306: where there is none.
func TestLeastOfNone(t *testing.T) {
	g := made(t, list{"a"}, list{"S", "T", "U", "bare"}, "S", list{"S", "S"}, list{"T", "U"}, list{"U", "T"}, list{"U", "a", "bare"})
	for s := g.Terminals(); s < g.Symbols(); s++ {
		wantNoLeast(t, g, s)
	}
	for _, s := range []int{-1, g.Symbols(), g.Symbols() + 1, 127, 128, 1 << 40, -1 << 63, 1<<63 - 1} {
		wantNoLeast(t, g, s)
	}
}

// P1306: against all texts of small grammars.
func TestLeastByTexts(t *testing.T) {
	r := rand.New(rand.NewSource(1306))
	const most = 8 // three nonterminals, and two symbols of a rule at most
	texts, none, ties := 0, 0, 0
	for range 3000 {
		g := small(t, r, r.Intn(3))
		all := slowTexts(g, most)
		for s := range g.Symbols() {
			want, there := slowLeast(all[s])
			got, found := g.Least(s)
			wantInts(t, fmt.Sprintf("%q: Least(%d)", g.Text(), s), got, want)
			if found != there {
				t.Errorf("%q: Least(%d): %v", g.Text(), s, found)
			}
			if there && len(want) > 1 {
				texts++
				ties += shortOnes(all[s], len(want)) - 1
			} else if !there {
				none++
			}
		}
	}
	if texts < 800 || none < 1000 || ties < 150 {
		t.Errorf("that tells little: %d, %d, %d", texts, none, ties)
	}
}

// shortOnes: how many texts have this length.
func shortOnes(texts map[string]bool, length int) int {
	n := 0
	for text := range texts {
		if len(text) == length {
			n++
		}
	}
	return n
}

// doubles: D0 is a, and each Dn is the one ahead of it, twice.
func doubles(count int) list {
	lines := list{"D0 -> a"}
	for n := range count {
		lines = append(lines, fmt.Sprintf("D%d -> D%d D%d", n+1, n, n))
	}
	return lines
}

// P1306: texts of MaxText symbols, and of more.
func TestLeastOfLongTexts(t *testing.T) {
	lines := append(doubles(100), "M -> D20", "L -> D20 E", "E -> |", "B -> D20 a", "C -> B | D20 b", "K -> B | D19 b D18", "J -> E D20 E b | D100 | D20")
	g := parsed(t, strings.Join(lines, "\n"))
	for _, name := range []string{"D20", "M", "L", "J"} {
		got, found := g.Least(number(t, g, name))
		if len(got) != api.MaxText || !found {
			t.Errorf("Least(%s): %d symbols, %v", name, len(got), found)
		}
		for i, s := range got {
			if s != 0 {
				t.Fatalf("Least(%s): symbol %d at %d", name, s, i)
			}
		}
	}
	for _, name := range []string{"D21", "D22", "D62", "D63", "D64", "D65", "D100", "B", "C"} {
		wantNoLeast(t, g, number(t, g, name))
	}
	got, found := g.Least(number(t, g, "K"))
	b := number(t, g, "b")
	if len(got) != api.MaxText/4*3+1 || !found || got[api.MaxText/2] != b || got[api.MaxText/2-1] != 0 || got[len(got)-1] != 0 {
		t.Errorf("Least(K): %d symbols, %v", len(got), found)
	}
	if useless := g.Useless(); len(useless) == 0 {
		t.Error("Useless tells nothing")
	}
}

// P1306: long texts that differ at their ends alone, by many ways to each.
func TestLeastOfLongTies(t *testing.T) {
	lines := append(list{"X -> a b"}, doubles(19)...)
	for n := range 35 {
		lines = append(lines, fmt.Sprintf("S -> T%d", n), fmt.Sprintf("T%d -> D19 D18 %s b | D19 D18 b %s", n, letter(n, 23), letter(n, 31)))
	}
	g := parsed(t, strings.Join(lines, "\n"))
	got, found := g.Least(number(t, g, "S"))
	if len(got) != api.MaxText/4*3+2 || !found || told(g, got[len(got)-2:]) != "a b" {
		t.Errorf("Least(S): %d symbols, %v", len(got), found)
	}
	got, _ = g.Least(number(t, g, "T31"))
	wantText(t, "the end of Least(T31)", told(g, got[len(got)-2:]), "b a")
	got, _ = g.Least(number(t, g, "T1"))
	wantText(t, "the end of Least(T1)", told(g, got[len(got)-2:]), "b b")
}

func letter(n, one int) string {
	if n == one {
		return "a"
	}
	return "b"
}

// P1306: a rule with more symbols than a text may have, if they become few.
func TestLeastOfLongRules(t *testing.T) {
	rule := list{"S"}
	for range api.MaxText + 10 {
		rule = append(rule, "N")
	}
	g := made(t, list{"a"}, list{"S", "N"}, "S", append(rule, "a"), list{"N"}, list{"N", "a", "a"})
	wantLeast(t, g, "S", "a")
	g = made(t, list{"a"}, list{"S", "N"}, "S", rule, list{"N", "a"})
	wantNoLeast(t, g, g.Start())
	wantInts(t, "Useless", g.Useless(), nil)
	g = made(t, list{"a"}, list{"S", "N"}, "S", rule[:api.MaxText+1], list{"N", "a"})
	if got, found := g.Least(g.Start()); len(got) != api.MaxText || !found {
		t.Errorf("Least: %d symbols, %v", len(got), found)
	}
	g = made(t, list{"a"}, list{"S", "N"}, "S", rule[:api.MaxText+2], list{"N", "a"})
	wantNoLeast(t, g, g.Start())
}
