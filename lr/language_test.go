package lr_test

import (
	"fmt"
	"math/rand"
	"slices"
	"testing"

	"orrery/api"
	"orrery/grammar"
	"orrery/lr"
)

// texts: for each symbol all texts of terminals of at most this many symbols, a byte for each.
func texts(g *grammar.Grammar, most int) []map[string]bool {
	all := make([]map[string]bool, g.Symbols())
	for s := range all {
		all[s] = map[string]bool{}
		if s < g.Terminals() {
			all[s][string([]byte{byte(s)})] = true
		}
	}
	for more := true; more; {
		more = false
		for _, r := range g.Rules() {
			heads := map[string]bool{"": true}
			for _, s := range r.Right {
				heads = joined(heads, all[s], most)
			}
			more = adds(all[r.Left], heads) || more
		}
	}
	return all
}

// beginnings: for each symbol all texts of at most this many symbols that one of its texts begins with, if each symbol has one.
func beginnings(g *grammar.Grammar, most int) []map[string]bool {
	whole := texts(g, most)
	all := make([]map[string]bool, g.Symbols())
	for s := range all {
		all[s] = map[string]bool{"": true}
		if s < g.Terminals() {
			all[s][string([]byte{byte(s)})] = true
		}
	}
	for more := true; more; {
		more = false
		for _, r := range g.Rules() {
			heads := map[string]bool{"": true}
			for _, s := range r.Right {
				more = adds(all[r.Left], joined(heads, all[s], most)) || more
				heads = joined(heads, whole[s], most)
			}
		}
	}
	return all
}

func joined(heads, tails map[string]bool, most int) map[string]bool {
	all := map[string]bool{}
	for head := range heads {
		for tail := range tails {
			if len(head)+len(tail) <= most {
				all[head+tail] = true
			}
		}
	}
	return all
}

// adds: is there something new?
func adds(to, more map[string]bool) bool {
	before := len(to)
	for text := range more {
		to[text] = true
	}
	return len(to) > before
}

// each: all lists of at most this many terminals, without the end.
func each(g *grammar.Grammar, most int, visit func(tokens []int)) {
	var go1 func(tokens []int)
	go1 = func(tokens []int) {
		visit(tokens)
		if len(tokens) == most {
			return
		}
		for s := range g.Terminals() - 1 {
			go1(append(slices.Clone(tokens), s))
		}
	}
	go1(nil)
}

func asText(tokens []int) string {
	text := make([]byte, len(tokens))
	for i, s := range tokens {
		text[i] = byte(s)
	}
	return string(text)
}

// known: grammars without conflicts by LALR, some of them with symbols of no use, or without a text.
var known = []list{
	{"E -> E + T | T", "T -> T * F | F", "F -> ( E ) | id"},
	pointers,
	{"S -> a S b |"},
	{"S -> a S a | b"},
	{"S -> A A", "A -> a A | b"},
	{"S -> S ( S ) |"},
	{"S -> A a | b A c | d c | b d a", "A -> d"},
	{"S -> A B C", "A -> a |", "B -> b |", "C -> c |"},
	{"S -> a | B", "B -> B b"},
	{"S -> a B | b", "B -> a B a"},
	{"S -> A S b", "A -> a"},
	{"S -> a", "U -> U b | S"},
	{"S -> if S else S | x"},
	{"S -> x S | T", "T -> y T |"},
}

// cleanOnes: grammars without conflicts, known ones and ones by chance.
func cleanOnes(t *testing.T, seed int64, kind, count int, visit func(g *grammar.Grammar, x lr.Table)) {
	t.Helper()
	r := rand.New(rand.NewSource(seed))
	seen := 0
	try := func(g *grammar.Grammar) {
		if x, conflicts := built(t, g, kind); len(conflicts) == 0 {
			visit(g, x)
			seen++
		}
	}
	for _, lines := range known {
		try(parsed(t, lines...))
	}
	for range count {
		try(small(t, r, 3))
	}
	if seen < count/10 {
		t.Errorf("%d of %d had no conflicts: that tells little", seen, count)
	}
}

// P1401: just the grammar's texts are taken, and the rules backwards are a rightmost derivation.
func TestTheLanguage(t *testing.T) {
	const most = 5
	for _, kind := range []int{lr.SLR, lr.LALR} {
		taken, refused := 0, 0
		cleanOnes(t, 1409, kind, 2500, func(g *grammar.Grammar, x lr.Table) {
			all := texts(g, most)[g.Start()]
			each(g, most, func(tokens []int) {
				rules, _, e := lr.Drive(x, tokens)
				what := fmt.Sprintf("%q: Drive(%v)", g.Text(), tokens)
				if e == api.ErrBig {
					return
				}
				if !all[asText(tokens)] {
					refused++
					wantErrno(t, what, e, api.ErrSyntax)
					return
				}
				taken++
				wantErrno(t, what, e, api.OK)
				slices.Reverse(rules)
				form, e := g.Replay(rules)
				wantErrno(t, what, e, api.OK)
				wantInts(t, what, form, tokens...)
			})
		})
		if taken < 1000 || refused < 20000 {
			t.Errorf("that tells little: %d, %d", taken, refused)
		}
	}
}

// P1402: without conflicts by SLR there are none by LALR, and both take the same texts by the same rules.
func TestBothKinds(t *testing.T) {
	taken := 0
	cleanOnes(t, 1410, lr.SLR, 2000, func(g *grammar.Grammar, x lr.Table) {
		y, conflicts := built(t, g, lr.LALR)
		wantConflicts(t, g.Text(), conflicts)
		each(g, 5, func(tokens []int) {
			rules, _, e := lr.Drive(x, tokens)
			others, _, f := lr.Drive(y, tokens)
			what := fmt.Sprintf("%q: Drive(%v)", g.Text(), tokens)
			if (e == api.OK) != (f == api.OK) {
				t.Errorf("%s: %v by SLR, %v by LALR", what, e, f)
			}
			wantInts(t, what, others, rules...)
			if e == api.OK {
				taken++
			}
		})
	})
	if taken < 1000 {
		t.Errorf("that tells little: %d", taken)
	}
	only := 0 // there are grammars for LALR alone
	cleanOnes(t, 1411, lr.LALR, 2000, func(g *grammar.Grammar, _ lr.Table) {
		if _, conflicts := built(t, g, lr.SLR); len(conflicts) > 0 {
			only++
		}
	})
	if only < 5 {
		t.Errorf("%d grammars for LALR alone: that tells little", only)
	}
}

// P1404: what stands ahead of a wrong token is the beginning of a text, and no more is; of what is expected at least one goes on.
func TestRightBeginnings(t *testing.T) {
	const most = 4
	for _, kind := range []int{lr.SLR, lr.LALR} {
		stops := 0
		cleanOnes(t, 1412, kind, 2500, func(g *grammar.Grammar, x lr.Table) {
			if len(g.Useless()) > 0 {
				return
			}
			whole, heads := texts(g, most)[g.Start()], beginnings(g, most+1)[g.Start()]
			goesOn := func(tokens []int, next int) bool { // or ends there
				if next == g.Terminals()-1 {
					return whole[asText(tokens)]
				}
				return heads[asText(tokens)+string([]byte{byte(next)})]
			}
			each(g, most, func(tokens []int) {
				_, at, e := lr.Drive(x, tokens)
				if e != api.ErrSyntax {
					return
				}
				stops++
				what := fmt.Sprintf("%q: Drive(%v) stops at %d", g.Text(), tokens, at)
				next := g.Terminals() - 1
				if at < len(tokens) {
					next = tokens[at]
				}
				if !heads[asText(tokens[:at])] {
					t.Errorf("%s: that is no beginning", what)
				}
				if goesOn(tokens[:at], next) {
					t.Errorf("%s: it goes on", what)
				}
				expected, _ := lr.Expected(x, tokens)
				if !slices.ContainsFunc(expected, func(s int) bool { return goesOn(tokens[:at], s) }) {
					t.Errorf("%s: none of %v goes on", what, expected)
				}
				if slices.Contains(expected, next) {
					t.Errorf("%s: it is expected", what)
				}
			})
		})
		if stops < 10000 {
			t.Errorf("that tells little: %d", stops)
		}
	}
}
