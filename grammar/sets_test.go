package grammar_test

import (
	"fmt"
	"math/rand"
	"slices"
	"strings"
	"testing"

	"orrery/api"
	"orrery/grammar"
)

// P1304: Nullable of symbols one behind the other.
func TestNullable(t *testing.T) {
	g := parsed(t, "S -> A B | c S", "A -> a |", "B -> A A", "C -> C | D", "D -> C", "E -> S C |")
	for text, want := range map[string]bool{
		"": true, "S": true, "A": true, "B": true, "C": false, "D": false, "E": true, "a": false, "c": false, "$": false,
		"A B S E": true, "A a": false, "a A": false, "A C A": false, "$ A": false, "A $": false, "A A A A A A": true, "S S c": false,
	} {
		if got := g.Nullable(numbers(t, g, text)); got != want {
			t.Errorf("Nullable(%s): %v", text, got)
		}
	}
	a := number(t, g, "A")
	for _, none := range []int{-1, g.Symbols(), g.Symbols() + 1, 64, 127, 128, 1 << 40, -1 << 63} {
		for _, symbols := range [][]int{{none}, {a, none}, {none, a}} {
			if g.Nullable(symbols) {
				t.Errorf("Nullable(%v): true", symbols)
			}
		}
	}
}

// P1304: First, with symbols that become nothing, that become no text, and the end where it is handed in.
func TestFirst(t *testing.T) {
	g := parsed(t, "S -> A B c | d S", "A -> a |", "B -> b A |", "R -> R r | A r", "Q -> Q q", "P -> A P x |", "O -> Q a", "N -> B Q y")
	for text, want := range map[string]string{
		"": "", "a": "a", "$": "$", "S": "c d a b", "A": "a", "B": "b", "R": "a r", "Q": "", "P": "a x", "O": "", "N": "b",
		"A B": "a b", "A B $": "a b $", "B A x": "a b x", "A c B": "c a", "c A": "c", "$ a": "$", "A $ b": "a $", "P $": "a x $", "a $": "a", "S $": "c d a b", "Q a": "", "A Q a": "a", "B $ $": "b $",
	} {
		got := g.First(numbers(t, g, text))
		if wanted := numbers(t, g, want); !slices.Equal(got, sorted(wanted)) {
			t.Errorf("First(%s): %s, not %s", text, told(g, got), want)
		}
	}
	a, x := number(t, g, "A"), number(t, g, "x")
	for _, none := range []int{-1, g.Symbols(), g.Symbols() + 1, 127, 128, 1 << 40, -1 << 63} {
		for _, symbols := range [][]int{{none}, {a, none}, {none, a}, {x, none}, {x, x, x, none}} {
			wantInts(t, fmt.Sprint("First", symbols), g.First(symbols), nil)
		}
	}
}

func sorted(symbols []int) []int {
	slices.Sort(symbols)
	return symbols
}

// P1304: Follow, where the start reaches the nonterminal, be it by symbols that become no text.
func TestFollow(t *testing.T) {
	for _, c := range []struct {
		text   string
		follow map[string]string
	}{
		{"S -> A B c | d S", map[string]string{"S": "$", "A": "", "B": "", "c": "", "$": ""}},
		{"S -> A B c\nA -> a\nB -> b |", map[string]string{"S": "$", "A": "b c", "B": "c", "a": "", "b": "", "$": ""}},
		{"S -> A B\nA -> a\nB -> b |", map[string]string{"S": "$", "A": "b $", "B": "$"}},
		{"S -> A B C D\nA ->\nB -> A b |\nC -> c |\nD -> d C |", map[string]string{"A": "b c d $", "B": "c d $", "C": "d $", "D": "$"}},
		{"S -> a\nU -> S b | A c\nA -> a", map[string]string{"S": "$", "U": "", "A": ""}},
		{"S -> a | A\nU -> S b | A c | U\nA -> a", map[string]string{"S": "$", "U": "", "A": "$"}},
		{"S -> Q A b\nQ -> Q\nA -> a S", map[string]string{"S": "$ b", "Q": "a", "A": "b"}},
		{"S -> A Q b\nQ -> Q\nA -> a", map[string]string{"S": "$", "Q": "b", "A": ""}},
		{"S -> S S | a |", map[string]string{"S": "a $"}},
		{"S -> ( S ) | T\nT -> S", map[string]string{"S": ") $", "T": ") $"}},
	} {
		g := parsed(t, c.text)
		for name, want := range c.follow {
			got := g.Follow(number(t, g, name))
			if !slices.Equal(got, sorted(numbers(t, g, want))) {
				t.Errorf("%q: Follow(%s): %s, not %s", c.text, name, told(g, got), want)
			}
		}
		for _, none := range []int{-1, g.Symbols(), 127, 128, 1 << 40, -1 << 63} {
			wantInts(t, "Follow of none", g.Follow(none), nil)
		}
	}
	g := made(t, list{"a"}, list{"T", "S", "bare"}, "S", list{"T", "S", "a"}, list{"S", "bare", "a"})
	wantText(t, "Follow(S)", told(g, g.Follow(number(t, g, "S"))), "$")
	wantText(t, "Follow(bare)", told(g, g.Follow(number(t, g, "bare"))), "a")
	wantText(t, "Follow(T)", told(g, g.Follow(number(t, g, "T"))), "")
}

// P1305: those that become no text, and those that the start does not reach by rules that do.
func TestUseless(t *testing.T) {
	for _, c := range []struct{ text, want string }{
		{"S -> a | B\nB -> B b", "B"},
		{"S -> a\nA -> a", "A"},
		{"S -> S", "S"},
		{"S ->", ""},
		{"S -> S |", ""},
		{"S -> A B\nA -> a\nB -> B", "S A B"},
		{"S -> A B | a\nA -> a\nB -> B b", "A B"},
		{"S -> A B | A\nA -> a\nB -> B b | C B\nC -> c", "B C"},
		{"S -> A\nA -> B\nB -> A | S", "S A B"},
		{"S -> A\nA -> B\nB -> A | S |", ""},
		{"S -> a\nA -> B | a\nB -> A | S", "A B"},
		{"S -> A | a\nA -> a A Z | B A\nB -> b\nZ -> S", "A B Z"},
		{"S -> T T\nT -> U U |\nU -> u V\nV -> T", ""},
	} {
		g := parsed(t, c.text)
		got := g.Useless()
		if !slices.Equal(got, sorted(numbers(t, g, c.want))) {
			t.Errorf("Useless of %q: %s, not %s", c.text, told(g, got), c.want)
		}
	}
	g := made(t, list{"a", "b"}, list{"T", "bare", "S", "alone"}, "S", list{"S", "a"}, list{"S", "bare", "T"}, list{"T", "b"})
	wantText(t, "Useless", told(g, g.Useless()), "T bare alone")
	g = made(t, list{"a"}, list{"S", "T"}, "T", list{"S", "a"})
	wantText(t, "Useless", told(g, g.Useless()), "S T")
}

// P1304, P1305: against all forms of small grammars.
func TestSetsByForms(t *testing.T) {
	r := rand.New(rand.NewSource(1304))
	nullables, firsts, follows, useless := 0, 0, 0, 0
	for range 3000 {
		g := small(t, r, 0)
		for range 4 {
			symbols := make([]int, r.Intn(3))
			for i := range symbols {
				symbols[i] = r.Intn(g.Symbols())
			}
			what := fmt.Sprintf("%q, start %d, of %s", g.Text(), g.Start(), told(g, symbols))
			want := slowNullable(g, symbols)
			if got := g.Nullable(symbols); got != want {
				t.Errorf("Nullable: %s: %v", what, got)
			}
			first := slowFirst(g, symbols)
			wantInts(t, "First: "+what, g.First(symbols), first)
			if want && len(symbols) > 0 {
				nullables++
			}
			firsts += len(first)
		}
		follow := slowFollow(g)
		for s := range g.Symbols() {
			wantInts(t, fmt.Sprintf("%q, start %d: Follow(%d)", g.Text(), g.Start(), s), g.Follow(s), follow[s])
			follows += len(follow[s])
		}
		none := slowUseless(g)
		wantInts(t, fmt.Sprintf("%q, start %d: Useless", g.Text(), g.Start()), g.Useless(), none)
		if len(none) > 0 && len(none) < g.Symbols()-g.Terminals() {
			useless++
		}
	}
	if nullables < 1000 || firsts < 5000 || follows < 4000 || useless < 500 {
		t.Errorf("that tells little: %d, %d, %d, %d", nullables, firsts, follows, useless)
	}
}

// wide: a grammar at random with many symbols.
func wide(t *testing.T, r *rand.Rand) *grammar.Grammar {
	t.Helper()
	terminals, others := many("t", 1+r.Intn(60)), many("N", 1+r.Intn(api.MaxSymbols-61))
	var rules rows
	for range 1 + r.Intn(api.MaxRules) {
		rule := list{others[r.Intn(len(others))]}
		for range r.Intn(5) {
			if r.Intn(3) == 0 {
				rule = append(rule, terminals[r.Intn(len(terminals))])
			} else {
				rule = append(rule, others[r.Intn(len(others))])
			}
		}
		rules = append(rules, rule)
	}
	return made(t, terminals, others, others[r.Intn(len(others))], rules...)
}

// within: does one list have all of another?
func within(all, part []int) bool {
	for _, s := range part {
		if !slices.Contains(all, s) {
			return false
		}
	}
	return true
}

// reachedBy: the symbols that the start comes to, one after the other.
func reachedBy(g *grammar.Grammar) []int {
	list := []int{g.Start()}
	for i := 0; i < len(list); i++ {
		for _, n := range g.Of(list[i]) {
			for _, s := range g.Rules()[n].Right {
				if !slices.Contains(list, s) {
					list = append(list, s)
				}
			}
		}
	}
	return list
}

// P1309: they hold along the rules.
func TestClosed(t *testing.T) {
	r := rand.New(rand.NewSource(1309))
	grammars := []*grammar.Grammar{sums(t), parsed(t, nameLine(api.MaxSymbols)), parsed(t, ruleLines(api.MaxRules))}
	for range 60 {
		grammars = append(grammars, wide(t, r), small(t, r, 0))
	}
	steps := 0
	for _, g := range grammars {
		reached := reachedBy(g)
		for n, rule := range g.Rules() {
			left := []int{rule.Left}
			if g.Nullable(rule.Right) && !g.Nullable(left) {
				t.Errorf("%q: rule %d: its left one can not be nothing", g.Text(), n)
			}
			if !within(g.First(left), g.First(rule.Right)) {
				t.Errorf("%q: rule %d: its left one does not begin with what its right ones do", g.Text(), n)
			}
			if !slices.Contains(reached, rule.Left) {
				continue
			}
			for i, s := range rule.Right {
				if s < g.Terminals() {
					continue
				}
				steps++
				tail := rule.Right[i+1:]
				if !within(g.Follow(s), g.First(tail)) || g.Nullable(tail) && !within(g.Follow(s), g.Follow(rule.Left)) {
					t.Errorf("%q: rule %d, place %d: what follows it", g.Text(), n, i)
				}
			}
		}
		if !within(g.Follow(g.Start()), []int{g.Terminals() - 1}) {
			t.Errorf("%q: the end does not follow the start", g.Text())
		}
	}
	if steps < 1000 {
		t.Errorf("that tells little: %d", steps)
	}
}

// What is handed down a chain of all nonterminals, whose rules stand the wrong way round for a single walk.
func TestLongChains(t *testing.T) {
	last := api.MaxSymbols - 4 // a, b and the end are three of them
	for _, turned := range []bool{false, true} {
		var lines list
		for n := range last {
			lines = append(lines, fmt.Sprintf("N%d -> N%d", n, n+1))
		}
		lines = append(lines, fmt.Sprintf("N%d -> a |", last))
		if turned {
			slices.Reverse(lines[1:])
		}
		lines = append(lines, "N0 -> N0 b")
		g := parsed(t, strings.Join(lines, "\n"))
		if g.Symbols() != api.MaxSymbols {
			t.Fatalf("%d symbols", g.Symbols())
		}
		for n := range last + 1 {
			s := number(t, g, fmt.Sprint("N", n))
			first, follow := "a", "b $"
			if n == 0 {
				first = "a b"
			}
			if !g.Nullable([]int{s}) {
				t.Errorf("N%d can not be nothing", n)
			}
			wantInts(t, fmt.Sprint("First of N", n), g.First([]int{s}), sorted(numbers(t, g, first)))
			wantInts(t, fmt.Sprint("Follow of N", n), g.Follow(s), sorted(numbers(t, g, follow)))
		}
		wantInts(t, "Useless", g.Useless(), nil)
	}
}

// All terminals that there can be, in one set.
func TestFullSets(t *testing.T) {
	terminals := many("t", api.MaxSymbols-3)
	rules := rows{{"S", "A", "S"}, {"S"}}
	for _, name := range terminals {
		rules = append(rules, list{"A", name})
	}
	g := made(t, terminals, list{"S", "A"}, "S", rules...)
	var all []int
	for s := range g.Terminals() {
		all = append(all, s)
	}
	last := len(all) - 1
	wantInts(t, "First(S)", g.First([]int{g.Start()}), all[:last])
	wantInts(t, "First(S $)", g.First([]int{g.Start(), last}), all)
	wantInts(t, "Follow(A)", g.Follow(api.MaxSymbols-1), all)
	wantInts(t, "Follow(S)", g.Follow(g.Start()), all[last:])
}
