package grammar_test

import (
	"fmt"
	"slices"
	"testing"

	"orrery/grammar"
)

// roomy: the list, and behind it spare room that is not 0.
func roomy[T any](list []T, mark T) []T {
	return append(slices.Clone(list), mark, mark, mark)[:len(list)]
}

func wantStays[T comparable](t *testing.T, what string, given, list []T, mark T) {
	t.Helper()
	if !slices.Equal(given, list) || !slices.Equal(given[:len(list)+3][len(list):], []T{mark, mark, mark}) {
		t.Errorf("%s changes what it is given: %v", what, given[:len(list)+3])
	}
}

// Rule 4: the lists that are handed to New are not changed, their spare room neither, and not kept.
func TestNewLeavesLists(t *testing.T) {
	terminals, others := list{"a", "b"}, list{"S", "T"}
	rules := rows{{"S", "a", "T"}, {"T", "b"}, {"S"}}
	givenTerminals, givenOthers := roomy(terminals, "x"), roomy(others, "y")
	var givenRules rows
	for _, rule := range rules {
		givenRules = append(givenRules, roomy(rule, "z"))
	}
	givenRules = roomy(givenRules, list{"mark"})
	g := made(t, givenTerminals, givenOthers, "S", givenRules...)
	wantStays(t, "New", givenTerminals, terminals, "x")
	wantStays(t, "New", givenOthers, others, "y")
	for n, rule := range rules {
		wantStays(t, "New", givenRules[n], rule, "z")
	}
	for _, row := range givenRules[:len(rules)+3][len(rules):] {
		wantTexts(t, "spare rows", row, "mark")
	}
	before := whole(g)
	for _, given := range append(givenRules[:len(rules)+3], givenTerminals, givenOthers) {
		for i := range given {
			given[i] = "b"
		}
	}
	wantText(t, "what was kept", whole(g), before)
}

// whole: all that a grammar tells.
func whole(g *grammar.Grammar) string {
	text := g.Text() + toldNames(g) + fmt.Sprint(g.Rules(), g.Useless(), g.Terminals(), g.Start())
	for s := range g.Symbols() {
		least, found := g.Least(s)
		derived, err := g.Replay(g.Of(s))
		text += fmt.Sprintln(g.Of(s), g.First([]int{s}), g.Follow(s), g.Nullable([]int{s}), least, found, derived, err)
	}
	return text
}

// Rule 4: lists of symbols and of rules are not changed, their spare room neither.
func TestWhatIsHandedInStays(t *testing.T) {
	g := parsed(t, "S -> A B S | a", "A -> a |", "B ->")
	for _, symbols := range [][]int{nil, {1}, {4, 3, 0, 1}, {3, 4, 2}, {-1, 9, 3}} {
		given := roomy(symbols, 77)
		g.Nullable(given)
		wantStays(t, "Nullable", given, symbols, 77)
		g.First(given)
		wantStays(t, "First", given, symbols, 77)
	}
	for _, rules := range [][]int{nil, {0}, {0, 0, 1}, {0, 1, 4}, {0, 1, 4, 2}, {7}} {
		given := roomy(rules, 77)
		g.Replay(given)
		wantStays(t, "Replay", given, rules, 77)
	}
}

// scribble: over a list and its spare room.
func scribble(lists ...[]int) {
	for _, list := range lists {
		list = list[:cap(list)]
		for i := range list {
			list[i] = 99
		}
	}
}

// Rule 4: what is handed out is the caller's, with its spare room.
func TestWhatIsHandedOutIsTheCallers(t *testing.T) {
	for _, g := range []*grammar.Grammar{sums(t), parsed(t, "S -> A B S | a", "A -> a |", "B ->", "S -> S S a b"), parsed(t, nameLine(20))} {
		before := whole(g)
		for s := range g.Symbols() {
			least, _ := g.Least(s)
			scribble(g.Of(s), g.First([]int{s}), g.Follow(s), least)
			derived, _ := g.Replay(g.Of(s))
			scribble(derived)
		}
		scribble(g.Useless())
		started, _ := g.Replay(nil)
		scribble(started, g.First([]int{0}))
		rules := g.Rules()
		for n := range rules {
			rules[n].Left = 98
			scribble(rules[n].Right)
		}
		wantText(t, "what it tells", whole(g), before)
	}
}

// Rule 4: no two lists of one answer share memory, spare room too.
func TestRulesApart(t *testing.T) {
	g := parsed(t, "S -> A B S | a | | S S", "A -> a |", "B -> b b b b b")
	for n := range g.Rules() {
		rules, fresh := g.Rules(), g.Rules()
		scribble(rules[n].Right)
		rules[n].Right = append(rules[n].Right, 97, 97, 97, 97, 97, 97, 97, 97)
		for m, r := range rules {
			if m != n && !slices.Equal(r.Right, fresh[m].Right) {
				t.Errorf("rules %d and %d share memory", n, m)
			}
		}
	}
}

// Two grammars of one text share nothing that can be seen, and one answers the same each time.
func TestSameEachTime(t *testing.T) {
	for _, text := range []string{"E -> E + T | T\nT -> T * F | F\nF -> ( E ) | id", "S -> A B S | a\nA -> a |\nB ->"} {
		g, h := parsed(t, text), parsed(t, text)
		first := whole(g)
		for range 3 {
			wantText(t, text, whole(g), first)
			wantText(t, text, whole(h), first)
		}
	}
}
