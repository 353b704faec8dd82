package lr_test

import (
	"fmt"
	"math"
	"math/rand"
	"slices"
	"testing"

	"orrery/api"
	"orrery/grammar"
	"orrery/lr"
)

// stateOf: the state with just these items.
func stateOf(t *testing.T, g *grammar.Grammar, text string) int {
	t.Helper()
	states, _ := lr.States(g)
	at := slices.IndexFunc(states, func(state []lr.Item) bool { return itemText(state) == text })
	if at < 0 {
		t.Fatalf("%q: no state %s", g.Text(), text)
	}
	return at
}

func wantLook(t *testing.T, g *grammar.Grammar, kind, state, rule int, want string) {
	t.Helper()
	got, e := lr.Look(g, kind, state, rule)
	what := fmt.Sprintf("%q: Look(%d, %d, %d)", g.Text(), kind, state, rule)
	wantErrno(t, what, e, api.OK)
	wanted := numbers(t, g, want)
	slices.Sort(wanted)
	wantInts(t, what, got, wanted...)
}

func wantNoLook(t *testing.T, g *grammar.Grammar, kind, state, rule int) {
	t.Helper()
	if got, e := lr.Look(g, kind, state, rule); len(got) != 0 || e != api.ErrArg {
		t.Errorf("%q: Look(%d, %d, %d) = %v, %v", g.Text(), kind, state, rule, got, e)
	}
}

// F14.1: where SLR and LALR differ, and where they do not.
func TestLook(t *testing.T) {
	for _, c := range []struct {
		lines     list
		state     string
		rule      int
		slr, lalr string
	}{
		{pointers, "0.1 4.1", 4, "= $", "$"},
		{pointers, "4.1", 4, "= $", "= $"},
		{pointers, "3.1", 3, "= $", "= $"},
		{pointers, "1.1", 1, "$", "$"},
		{pointers, "5.1", 5, "$", "$"},
		{list{"E -> E + T | T", "T -> T * F | F", "F -> ( E ) | id"}, "1.1 2.1", 1, "+ ) $", "+ ) $"},
		{list{"E -> E + T | T", "T -> T * F | F", "F -> ( E ) | id"}, "0.1 6.1", 6, "$", "$"},
		{list{"E -> E + T | T", "T -> T * F | F", "F -> ( E ) | id"}, "5.1", 5, "+ * ) $", "+ * ) $"},
		{list{"S -> a A d | b A c | A e", "A -> x"}, "3.1", 3, "c d e", "c d e"},
		{list{"S -> a A d | b B d | a B e | b A e", "A -> c", "B -> c"}, "4.1 5.1", 4, "d e", "d e"},
		{list{"S -> A a | b A c | d c | b d a", "A -> d"}, "2.1 4.1", 4, "a c", "a"},
		{list{"S -> A a | b A c | d c | b d a", "A -> d"}, "3.2 4.1", 4, "a c", "c"},
		{list{"S -> A x | y A", "A ->"}, "0.0 1.0 2.0 3.0", 2, "x $", "x"},
		{list{"S -> A x | y A", "A ->"}, "1.1 2.0", 2, "x $", "$"},
		{list{"S -> a S b |"}, "0.0 1.0 2.0", 1, "b $", "$"},
		{list{"S -> a S b |"}, "0.0 0.1 1.0", 1, "b $", "b"},
		{list{"S -> A B C x", "A -> a", "B -> b |", "C -> c |"}, "1.1", 1, "b c x", "b c x"},
		{list{"S -> A B C", "A -> a", "B -> b |", "C -> c |"}, "1.1", 1, "b c $", "b c $"},
		{list{"S -> A B", "A -> a", "B -> B b"}, "1.1", 1, "", ""},
		{list{"S -> S"}, "0.1 1.1", 0, "$", "$"},
		{list{"S -> S"}, "0.1 1.1", 1, "$", "$"},
		{list{"S -> A x | A", "A -> B", "B -> A | b"}, "0.1 1.1 3.1", 3, "x $", "x $"},
	} {
		g := parsed(t, c.lines...)
		at := stateOf(t, g, c.state)
		wantLook(t, g, lr.SLR, at, c.rule, c.slr)
		wantLook(t, g, lr.LALR, at, c.rule, c.lalr)
	}
}

// F14.1: kinds, states and rules that there are not, and items whose point is not at the end.
func TestLookOfWrongInputs(t *testing.T) {
	g := sums(t)
	start, sum := stateOf(t, g, "0.0 1.0 2.0 3.0 4.0 5.0 6.0"), stateOf(t, g, "0.1 6.1")
	for _, kind := range []int{lr.SLR, lr.LALR} {
		for _, n := range []int{-1, 12, 13, api.MaxItems, math.MinInt, math.MaxInt} {
			wantNoLook(t, g, kind, n, 5)
			wantNoLook(t, g, kind, sum, n)
		}
		for rule := range 8 {
			wantNoLook(t, g, kind, start, rule)
			if rule != 6 {
				wantNoLook(t, g, kind, sum, rule)
			}
		}
	}
	for _, kind := range []int{0, 3, -1, lr.Accept, math.MinInt, math.MaxInt} {
		wantNoLook(t, g, kind, sum, 6)
	}
	h := parsed(t, "S -> a |") // the rule of nothing has its end where it begins
	wantLook(t, h, lr.SLR, 0, 1, "$")
	wantLook(t, h, lr.LALR, 0, 1, "$")
	wantNoLook(t, h, lr.LALR, 0, 0)
	wantNoLook(t, h, lr.LALR, 0, 2)
	wantNoLook(t, h, lr.LALR, 1, 1)
}

// F14.1 and P1402: against the words of the chapter, and against states of LR(1) laid together, with grammars at random; LALR's lookaheads are among SLR's.
func TestLookByTheWords(t *testing.T) {
	r := rand.New(rand.NewSource(1402))
	differ, none, same := 0, 0, 0
	for range 2000 {
		g := small(t, r, 3)
		s := slowly(g)
		looks := map[int][]map[int]map[int]bool{lr.SLR: s.looks(lr.SLR), lr.LALR: s.looks(lr.LALR)}
		for state := range s.states {
			for rule := range s.rules {
				var got [3][]int
				for kind, all := range looks {
					look, e := lr.Look(g, kind, state, rule)
					what := fmt.Sprintf("%q: Look(%d, %d, %d)", g.Text(), kind, state, rule)
					if !s.ended(state, rule) {
						wantErrno(t, what, e, api.ErrArg)
						continue
					}
					wantErrno(t, what, e, api.OK)
					wantInts(t, what, look, rising(all[state][rule])...)
					got[kind] = look
				}
				if !s.ended(state, rule) {
					continue
				}
				for _, terminal := range got[lr.LALR] {
					if !slices.Contains(got[lr.SLR], terminal) {
						t.Errorf("%q: state %d, rule %d: SLR has not %d", g.Text(), state, rule, terminal)
					}
				}
				switch {
				case len(got[lr.LALR]) < len(got[lr.SLR]):
					differ++
				case len(got[lr.LALR]) == 0:
					none++
				default:
					same++
				}
			}
		}
	}
	if differ < 500 || none < 50 || same < 2000 {
		t.Errorf("that tells little: %d, %d, %d", differ, none, same)
	}
}

func rising(set map[int]bool) []int {
	var all []int
	for n := range set {
		all = append(all, n)
	}
	slices.Sort(all)
	return all
}
