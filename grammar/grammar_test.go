package grammar_test

import (
	"fmt"
	"slices"
	"strings"
	"testing"

	"orrery/api"
	"orrery/grammar"
)

// parsed: the grammar of these lines, which must be one.
func parsed(t *testing.T, lines ...string) *grammar.Grammar {
	t.Helper()
	g, at, err := grammar.Parse(strings.Join(lines, "\n"))
	if g == nil || at != 0 || err != api.OK {
		t.Fatalf("Parse(%.200q) = %v, %d, %v", lines, g != nil, at, err)
	}
	return g
}

// made: the grammar of these names, which must be one.
func made(t *testing.T, terminals, others []string, start string, rules ...[]string) *grammar.Grammar {
	t.Helper()
	g, err := grammar.New(terminals, others, start, rules)
	if g == nil || err != api.OK {
		t.Fatalf("New(%.200q, %.200q, %q) = %v, %v", terminals, others, start, g != nil, err)
	}
	return g
}

// number: of a name that the grammar has.
func number(t *testing.T, g *grammar.Grammar, name string) int {
	t.Helper()
	n, found := g.Find(name)
	if !found {
		t.Fatalf("Find(%q): false", name)
	}
	return n
}

// numbers: of names between blanks.
func numbers(t *testing.T, g *grammar.Grammar, text string) []int {
	t.Helper()
	var list []int
	for _, name := range strings.Fields(text) {
		list = append(list, number(t, g, name))
	}
	return list
}

// told: the names of symbols, with blanks between.
func told(g *grammar.Grammar, symbols []int) string {
	var names []string
	for _, s := range symbols {
		name, found := g.Name(s)
		if !found {
			name = fmt.Sprintf("?%d", s)
		}
		names = append(names, name)
	}
	return strings.Join(names, " ")
}

// toldRules: each rule as a text.
func toldRules(g *grammar.Grammar) []string {
	var list []string
	for _, r := range g.Rules() {
		list = append(list, strings.TrimRight(told(g, []int{r.Left})+" -> "+told(g, r.Right), " "))
	}
	return list
}

// toldNames: the names of all symbols in order.
func toldNames(g *grammar.Grammar) string {
	var all []int
	for s := range g.Symbols() {
		all = append(all, s)
	}
	return told(g, all)
}

func wantText(t *testing.T, what, got, want string) {
	t.Helper()
	if got != want {
		t.Errorf("%s: %.300q, not %.300q", what, got, want)
	}
}

func wantInts(t *testing.T, what string, got, want []int) {
	t.Helper()
	if !slices.Equal(got, want) {
		t.Errorf("%s: %.300s, not %.300s", what, fmt.Sprint(got), fmt.Sprint(want))
	}
}

func wantTexts(t *testing.T, what string, got []string, want ...string) {
	t.Helper()
	if !slices.Equal(got, want) {
		t.Errorf("%s: %.300q, not %.300q", what, got, want)
	}
}

// sums: the grammar of the chapter's examples.
func sums(t *testing.T) *grammar.Grammar {
	t.Helper()
	return parsed(t, "E -> E + T | T", "T -> T * F | F", "F -> ( E ) | id")
}

// The examples of the chapter.
func TestExamples(t *testing.T) {
	g := sums(t)
	wantText(t, "names", toldNames(g), "+ * ( ) id $ E T F")
	wantInts(t, "counts", []int{g.Terminals(), g.Symbols(), g.Start(), len(g.Rules())}, []int{6, 9, 6, 6})
	wantText(t, "First(E)", told(g, g.First([]int{6})), "( id")
	wantText(t, "Follow(E)", told(g, g.Follow(6)), "+ ) $")
	wantText(t, "Follow(F)", told(g, g.Follow(8)), "+ * ) $")
	if g.Nullable([]int{6}) || !g.Nullable(nil) {
		t.Error("Nullable(E) or Nullable of nothing is wrong")
	}
	least, found := g.Least(6)
	if wantText(t, "Least(E)", told(g, least), "id"); !found {
		t.Error("Least(E): false")
	}
	wantInts(t, "Useless", g.Useless(), nil)
	h := parsed(t, "S -> a | B", "B -> B b")
	wantText(t, "Useless", told(h, h.Useless()), "B")
	wantReplay(t, g, []int{1, 3, 5}, "id")
	wantReplay(t, g, []int{0, 3, 5}, "E + id")
	wantRefused(t, "a b", 0, api.ErrGrammar)
	wantRefused(t, "", 1, api.ErrGrammar)
	wantTexts(t, "rules", toldRules(parsed(t, "S ->")), "S ->")
}

// A grammar that is nil, in every call.
func TestNilGrammar(t *testing.T) {
	var g *grammar.Grammar
	if s := g.Text(); s != "" {
		t.Errorf("Text: %q", s)
	}
	wantInts(t, "counts and start", []int{g.Terminals(), g.Symbols(), g.Start(), len(g.Rules())}, []int{0, 0, -1, 0})
	for _, s := range []int{-1, 0, 1, 1 << 40} {
		if name, found := g.Name(s); name != "" || found {
			t.Errorf("Name(%d) = %q, %v", s, name, found)
		}
		wantInts(t, "Of", g.Of(s), nil)
		wantInts(t, "Follow", g.Follow(s), nil)
		wantInts(t, "First", g.First([]int{s}), nil)
		if g.Nullable([]int{s}) {
			t.Errorf("Nullable(%d) of nil", s)
		}
		if least, found := g.Least(s); len(least) != 0 || found {
			t.Errorf("Least(%d) = %v, %v", s, least, found)
		}
		if list, err := g.Replay([]int{s}); len(list) != 0 || err != api.ErrNil {
			t.Errorf("Replay(%d) = %v, %v", s, list, err)
		}
	}
	for _, name := range []string{"", "$", "a"} {
		if n, found := g.Find(name); n != 0 || found {
			t.Errorf("Find(%q) = %d, %v", name, n, found)
		}
	}
	if g.Nullable(nil) || len(g.First(nil)) != 0 || len(g.Useless()) != 0 {
		t.Error("Nullable, First or Useless of nil tells something")
	}
	if list, err := g.Replay(nil); len(list) != 0 || err != api.ErrNil {
		t.Errorf("Replay(nothing) = %v, %v", list, err)
	}
}
