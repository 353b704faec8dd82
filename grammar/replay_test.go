package grammar_test

import (
	"fmt"
	"math/rand"
	"slices"
	"testing"

	"orrery/api"
	"orrery/grammar"
)

func wantReplay(t *testing.T, g *grammar.Grammar, rules []int, want string) {
	t.Helper()
	got, err := g.Replay(rules)
	if told(g, got) != want || err != api.OK {
		t.Errorf("Replay(%v): %.200q, %v, not %q", rules, told(g, got), err, want)
	}
}

func wantNoReplay(t *testing.T, g *grammar.Grammar, what string, rules []int, want api.Errno) {
	t.Helper()
	if got, err := g.Replay(rules); len(got) != 0 || err != want {
		t.Errorf("Replay(%s): %d symbols, %v, not %v", what, len(got), err, want)
	}
}

// P1307: each rule in place of the last nonterminal.
func TestReplay(t *testing.T) {
	g := sums(t)
	wantReplay(t, g, nil, "E")
	wantReplay(t, g, []int{}, "E")
	wantReplay(t, g, []int{0}, "E + T")
	wantReplay(t, g, []int{0, 2}, "E + T * F")
	wantReplay(t, g, []int{0, 2, 4}, "E + T * ( E )")
	wantReplay(t, g, []int{0, 2, 4, 1, 3, 5}, "E + T * ( id )")
	wantReplay(t, g, []int{0, 2, 4, 1, 3, 5, 3, 5, 1, 3, 5}, "id + id * ( id )")
	g = parsed(t, "S -> A S B | a", "A -> |", "B -> b A |")
	wantReplay(t, g, []int{0}, "A S B")
	wantReplay(t, g, []int{0, 5}, "A S")
	wantReplay(t, g, []int{0, 4, 3, 1, 2}, "a b")
	wantReplay(t, g, []int{0, 4}, "A S b A")
	wantReplay(t, g, []int{0, 5, 0, 5, 1, 2, 3}, "a")
	wantReplay(t, parsed(t, "S -> |"), []int{1}, "")
	g = made(t, list{"a"}, list{"T", "S"}, "S", list{"T", "a"}, list{"S", "T", "T"})
	wantReplay(t, g, []int{1, 0, 0}, "a a")
	wantReplay(t, made(t, nil, list{"S", "T"}, "T", list{"S"}), nil, "T")
}

// P1307: rules that do not fit.
func TestReplayWrong(t *testing.T) {
	g := sums(t)
	for _, rules := range [][]int{
		{-1}, {6}, {7}, {1 << 40}, {-1 << 63}, {1<<63 - 1}, {0, -1}, {1, 3, 6},
		{2}, {3}, {5}, {0, 0}, {0, 1}, {1, 1}, {0, 3, 0}, {0, 4},
		{1, 3, 5, 5}, {1, 3, 5, 0}, {1, 3, 5, 1, 3, 5}, {0, 2, 5, 2, 0},
	} {
		wantNoReplay(t, g, fmt.Sprint(rules), rules, api.ErrArg)
	}
	g = parsed(t, "S -> |")
	wantNoReplay(t, g, "0 0", []int{0, 0}, api.ErrArg)
	wantNoReplay(t, g, "0 1", []int{0, 1}, api.ErrArg)
	var none *grammar.Grammar
	wantNoReplay(t, none, "-1 of nil", []int{-1}, api.ErrNil)
}

// P1307: against a slow one, with rules that fit and rules that do not.
func TestReplayByForms(t *testing.T) {
	r := rand.New(rand.NewSource(1307))
	right, wrong, empty := 0, 0, 0
	for range 1500 {
		g := small(t, r, 0)
		var rules []int
		for range r.Intn(8) {
			form, _ := slowReplay(g, rules)
			fit := g.Of(lastOther(g, form))
			if len(fit) > 0 && r.Intn(12) > 0 {
				rules = append(rules, fit[r.Intn(len(fit))])
				continue
			}
			rules = append(rules, r.Intn(len(g.Rules())+2)-1)
			if _, fits := slowReplay(g, rules); !fits {
				break
			}
		}
		want, fits := slowReplay(g, rules)
		got, err := g.Replay(rules)
		if (err == api.OK) != fits || !fits && err != api.ErrArg {
			t.Errorf("%q: Replay(%v): %v", g.Text(), rules, err)
		}
		wantInts(t, fmt.Sprintf("%q: Replay(%v)", g.Text(), rules), got, want)
		switch {
		case fits && len(rules) > 2:
			right++
		case !fits:
			wrong++
		}
		if fits && len(want) == 0 {
			empty++
		}
	}
	if right < 100 || wrong < 100 || empty < 20 {
		t.Errorf("that tells little: %d, %d, %d", right, wrong, empty)
	}
}

// lastOther: the last nonterminal of a form; -1, if there is none.
func lastOther(g *grammar.Grammar, form []int) int {
	for _, s := range slices.Backward(form) {
		if s >= g.Terminals() {
			return s
		}
	}
	return -1
}

// P1307: a rightmost derivation, gone backwards, is a reduction; Least's own text can be derived.
func TestReplayOfLeast(t *testing.T) {
	g := parsed(t, "S -> a S b | c")
	rules := []int{0, 0, 0, 1}
	wantReplay(t, g, rules, "a a a c b b b")
	least, _ := g.Least(g.Start())
	got, _ := g.Replay([]int{1})
	wantInts(t, "Replay", got, least)
}

// times: a rule, this often.
func times(rule, count int) []int {
	return slices.Repeat([]int{rule}, count)
}

// P1307: MaxText symbols, and one more.
func TestReplayLimits(t *testing.T) {
	g := parsed(t, "S -> S a | a | a a | | S S")
	got, err := g.Replay(times(0, api.MaxText-1))
	if len(got) != api.MaxText || err != api.OK || got[0] != g.Start() || got[1] != 0 || got[api.MaxText-1] != 0 {
		t.Errorf("%d symbols, %v", len(got), err)
	}
	wantNoReplay(t, g, "one more", times(0, api.MaxText), api.ErrBig)
	full := times(0, api.MaxText-1)
	if got, err = g.Replay(append(slices.Clone(full), 1)); len(got) != api.MaxText || err != api.OK || got[0] != 0 {
		t.Errorf("%d symbols, %v", len(got), err)
	}
	if got, err = g.Replay(append(slices.Clone(full), 3)); len(got) != api.MaxText-1 || err != api.OK {
		t.Errorf("%d symbols, %v", len(got), err)
	}
	wantNoReplay(t, g, "one more at the end", append(slices.Clone(full), 2), api.ErrBig)
	wantNoReplay(t, g, "one more at some time", append(slices.Clone(full), 4, 3, 3), api.ErrBig)
	wantNoReplay(t, g, "one more, and less again", append(slices.Clone(full), 0, 3), api.ErrBig)
}

// P1307, rule 2: a rule that does not fit is told ahead of what is too long, wherever it stands.
func TestReplayFirstFault(t *testing.T) {
	g := parsed(t, "S -> S a | a", "T -> a")
	big := times(0, api.MaxText+5)
	wantNoReplay(t, g, "big", big, api.ErrBig)
	wantNoReplay(t, g, "big, then none", append(slices.Clone(big), 3), api.ErrArg)
	wantNoReplay(t, g, "big, then below", append(slices.Clone(big), -1), api.ErrArg)
	wantNoReplay(t, g, "big, then another's", append(slices.Clone(big), 2), api.ErrArg)
	wantNoReplay(t, g, "big, then one too many", append(slices.Clone(big), 1, 1), api.ErrArg)
	wantNoReplay(t, g, "big, then its last", append(slices.Clone(big), 1), api.ErrBig)
	wantNoReplay(t, g, "none, then big", append([]int{3}, big...), api.ErrArg)
}

// Long rules, used often: what would be too long is not made.
func TestReplayLongRules(t *testing.T) {
	head, tail := list{"S"}, list{"S", "S"}
	for range 400000 {
		head = append(head, "N")
		tail = append(tail, "a")
	}
	g := made(t, list{"a"}, list{"S", "N"}, "S", append(head, "S"), tail, list{"N"}, list{"S"})
	wantNoReplay(t, g, "long heads", times(0, 200000), api.ErrBig)
	wantNoReplay(t, g, "long tails", times(1, 200000), api.ErrBig)
	wantNoReplay(t, g, "long heads, then none", append(times(0, 200000), 3, 3), api.ErrArg)
	if got, err := g.Replay(slices.Concat(times(0, 2), []int{3}, times(2, 800000))); len(got) != 0 || err != api.OK {
		t.Errorf("%d symbols, %v", len(got), err)
	}
	if got, err := g.Replay([]int{0, 1, 3}); len(got) != 800000 || err != api.OK {
		t.Errorf("%d symbols, %v", len(got), err)
	}
	wantNoReplay(t, g, "three tails", times(1, 3), api.ErrBig)
}
