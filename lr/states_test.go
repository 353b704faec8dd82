package lr_test

import (
	"fmt"
	"math/rand"
	"slices"
	"strings"
	"testing"

	"orrery/api"
	"orrery/grammar"
	"orrery/lr"
)

// itemText: as rule and point, with blanks between items.
func itemText(all []lr.Item) string {
	var words list
	for _, item := range all {
		words = append(words, fmt.Sprintf("%d.%d", item.Rule, item.Dot))
	}
	return strings.Join(words, " ")
}

func wantItems(t *testing.T, what string, got []lr.Item, want string) {
	t.Helper()
	if itemText(got) != want {
		t.Errorf("%s: %s, not %s", what, itemText(got), want)
	}
}

func wantStates(t *testing.T, g *grammar.Grammar, want ...string) {
	t.Helper()
	states, e := lr.States(g)
	wantErrno(t, g.Text(), e, api.OK)
	var got list
	for _, state := range states {
		got = append(got, itemText(state))
	}
	if !slices.Equal(got, want) {
		t.Errorf("%q: %q, not %q", g.Text(), got, want)
	}
}

// F14.1: the states, in the order in which they are come to, and their items in order of rules, then of points.
func TestStates(t *testing.T) {
	wantStates(t, parsed(t, "S -> a S | b"),
		"0.0 1.0 2.0", // by a, b, S to 1, 2, 3
		"0.0 0.1 1.0", // by S to 4
		"1.1", "2.1", "0.2")
	wantStates(t, parsed(t, "S -> S a | b"), // terminals go ahead of nonterminals: a is 0, b is 1
		"0.0 1.0 2.0", "1.1", "0.1 2.1", "0.2")
	wantStates(t, parsed(t, "T -> a b", "S -> T S b | b a"),
		"0.0 3.0", "0.1", "3.1", "0.2")
	wantStates(t, parsed(t, "S -> T b | U b", "T -> a", "U -> a"), // b is 0 and a is 1
		"0.0 1.0 2.0 3.0 4.0", "2.1 3.1", "4.1", "0.1", "1.1", "0.2", "1.2")
	wantStates(t, parsed(t, "S -> S S | a"), // a state with one rule's points at each place
		"0.0 1.0 2.0", "1.1", "0.0 0.1 1.0 2.1", "0.0 0.1 0.2 1.0")
}

// F14.1: rules of nothing, symbols of no use, nonterminals without a rule, rings of rules.
func TestStatesAtTheEdges(t *testing.T) {
	wantStates(t, parsed(t, "S ->"), "0.0 1.0", "1.1")
	wantStates(t, parsed(t, "S -> | |"), "0.0 1.0 2.0 3.0", "3.1")
	wantStates(t, parsed(t, "S -> A S b |", "A ->"), "0.0 1.0 2.0 3.0", "3.1", "0.0 0.1 1.0 2.0", "0.2", "0.3")
	wantStates(t, parsed(t, "S -> S"), "0.0 1.0", "0.1 1.1")
	wantStates(t, parsed(t, "S -> A", "A -> B", "B -> S | A"), "0.0 1.0 2.0 3.0 4.0", "2.1 4.1", "0.1 3.1", "1.1")
	wantStates(t, parsed(t, "S -> a | B", "B -> B b"), "0.0 1.0 2.0 3.0", "0.1", "3.1", "1.1 2.1", "2.2")
	wantStates(t, parsed(t, "S -> a", "U -> S b | U"), "0.0 3.0", "0.1", "3.1")
	wantStates(t, made(t, list{"a"}, list{"bare", "S"}, "S", list{"S", "bare", "a"}), "0.0 1.0", "0.1", "1.1", "0.2")
	wantStates(t, made(t, list{"a"}, list{"S", "bare"}, "bare", list{"S", "a"}), "1.0", "1.1")
	wantStates(t, made(t, nil, list{"S"}, "S", list{"S"}), "0.0 1.0", "1.1")
}

// F14.1: against the words of the chapter, with grammars at random.
func TestStatesByTheWords(t *testing.T) {
	r := rand.New(rand.NewSource(1401))
	many := 0
	for range 2000 {
		g := small(t, r, 4)
		s := slowly(g)
		states, e := lr.States(g)
		if e != api.OK || len(states) != len(s.states) {
			t.Errorf("%q: %d states, %v, not %d", g.Text(), len(states), e, len(s.states))
			continue
		}
		for n, state := range states {
			wantItems(t, fmt.Sprintf("%q: state %d", g.Text(), n), state, itemText(s.told(n)))
		}
		if len(states) > 10 {
			many++
		}
	}
	if many < 300 {
		t.Errorf("%d of them had many states: that tells little", many)
	}
}

// F14.1: states whose kernels have the same digits in another order of rules and points: 1.11 and 11.1; 1.1 12.1 and 1.11 2.1.
func TestStatesThatLookAlike(t *testing.T) {
	var rows, pairs list
	for n := range 12 {
		rows = append(rows, fmt.Sprintf("S -> t%d", n)+strings.Repeat(" x", 12))
	}
	pairs = append(pairs, "S -> p", "S -> a"+strings.Repeat(" x", 9)+" B z", "B -> B y")
	for n := range 9 {
		pairs = append(pairs, fmt.Sprintf("S -> t%d", n))
	}
	pairs = append(pairs, "S -> a w")
	for _, c := range []struct{ lines, like list }{{rows, list{"1.11", "11.1"}}, {pairs, list{"1.1 12.1", "1.11 2.1"}}} {
		g := parsed(t, c.lines...)
		if stateOf(t, g, c.like[0]) == stateOf(t, g, c.like[1]) {
			t.Errorf("%q are one state", c.like)
		}
		states, _ := lr.States(g)
		wantNumber(t, "states", len(states), len(slowly(g).states))
	}
}

// F14.1: grammars with as many rules and symbols as there may be.
func TestStatesOfWideGrammars(t *testing.T) {
	var wide, chain, twins list
	for n := range api.MaxRules - 2 {
		wide = append(wide, fmt.Sprintf("S -> t%d S", n))
		twins = append(twins, fmt.Sprintf("S -> t%d S", n%60))
	}
	for n := range 126 {
		chain = append(chain, fmt.Sprintf("N%d -> N%d", n, n+1))
	}
	chain = append(chain, "N126 -> N126", "N126 ->")
	for _, lines := range []list{wide, twins, chain} {
		g := parsed(t, lines...)
		s := slowly(g)
		states, e := lr.States(g)
		if e != api.OK || len(states) != len(s.states) {
			t.Fatalf("%d states, %v, not %d", len(states), e, len(s.states))
		}
		for n, state := range states {
			wantItems(t, fmt.Sprint("state ", n), state, itemText(s.told(n)))
		}
		y, wanted := s.build(lr.SLR, nil)
		for _, kind := range []int{lr.SLR, lr.LALR} { // behind each rule there is the end alone, by both
			x, conflicts := built(t, g, kind)
			wantTable(t, "a wide grammar", x, y)
			wantConflicts(t, "a wide grammar", conflicts, wanted...)
			if !lr.Valid(x) {
				t.Errorf("it is no table")
			}
		}
	}
}
