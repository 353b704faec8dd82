package lr_test

import (
	"fmt"
	"slices"
	"strings"
	"testing"

	"orrery/api"
	"orrery/grammar"
	"orrery/lr"
)

type list = []string

// parsed: the grammar of these lines, which must be one.
func parsed(t *testing.T, lines ...string) *grammar.Grammar {
	t.Helper()
	g, at, e := grammar.Parse(strings.Join(lines, "\n"))
	if e != api.OK {
		t.Fatalf("Parse(%.200q) = %d, %v", lines, at, e)
	}
	return g
}

// made: the grammar of these names, which must be one; the nonterminals need no rules.
func made(t *testing.T, terminals, others list, start string, rules ...list) *grammar.Grammar {
	t.Helper()
	g, e := grammar.New(terminals, others, start, rules)
	if e != api.OK {
		t.Fatalf("New(%.200q, %.200q, %q) = %v", terminals, others, start, e)
	}
	return g
}

// numbers: of names between blanks.
func numbers(t *testing.T, g *grammar.Grammar, text string) []int {
	t.Helper()
	var all []int
	for _, name := range strings.Fields(text) {
		n, found := g.Find(name)
		if !found {
			t.Fatalf("Find(%q): false", name)
		}
		all = append(all, n)
	}
	return all
}

// built: the tables, without precedences, and their conflicts.
func built(t *testing.T, g *grammar.Grammar, kind int, prec ...lr.Prec) (lr.Table, []lr.Conflict) {
	t.Helper()
	x, conflicts, e := lr.Build(g, kind, prec)
	if e != api.OK {
		t.Fatalf("Build(%.200q, %d, %v) = %v", g.Text(), kind, prec, e)
	}
	return x, conflicts
}

// plain: the tables of a grammar that has no conflicts.
func plain(t *testing.T, kind int, lines ...string) (lr.Table, *grammar.Grammar) {
	t.Helper()
	g := parsed(t, lines...)
	x, conflicts := built(t, g, kind)
	if len(conflicts) > 0 {
		t.Fatalf("%q: %v", lines, conflicts)
	}
	return x, g
}

func wantInts(t *testing.T, what string, got []int, want ...int) {
	t.Helper()
	if !slices.Equal(got, want) {
		t.Errorf("%s: %.300s, not %.300s", what, fmt.Sprint(got), fmt.Sprint(want))
	}
}

func wantNumber(t *testing.T, what string, got, want int) {
	t.Helper()
	if got != want {
		t.Errorf("%s: %d, not %d", what, got, want)
	}
}

func wantErrno(t *testing.T, what string, got, want api.Errno) {
	t.Helper()
	if got != want {
		t.Errorf("%s: %v, not %v", what, got, want)
	}
}

func wantTable(t *testing.T, what string, got, want lr.Table) {
	t.Helper()
	same := slices.EqualFunc(got.Action, want.Action, slices.Equal[[]int]) && slices.EqualFunc(got.Goto, want.Goto, slices.Equal[[]int])
	if !same || !slices.Equal(got.Left, want.Left) || !slices.Equal(got.Size, want.Size) {
		t.Errorf("%s: %.500s, not %.500s", what, fmt.Sprint(got), fmt.Sprint(want))
	}
}

func wantConflicts(t *testing.T, what string, got []lr.Conflict, want ...lr.Conflict) {
	t.Helper()
	if !slices.Equal(got, want) {
		t.Errorf("%s: conflicts %.500s, not %.500s", what, fmt.Sprint(got), fmt.Sprint(want))
	}
}

func isZero(x lr.Table) bool {
	return len(x.Action) == 0 && len(x.Goto) == 0 && len(x.Left) == 0 && len(x.Size) == 0
}

// sums: the grammar of the chapter's examples.
func sums(t *testing.T) *grammar.Grammar {
	t.Helper()
	return parsed(t, "E -> E + T | T", "T -> T * F | F", "F -> ( E ) | id")
}

const unclear = "E -> E + E | E * E | id"

// pointers: a grammar that SLR has no tables for, and LALR has.
var pointers = list{"S -> L = R | R", "L -> * R | id", "R -> L"}

// long: a grammar with this many states, three at least: one rule of so many terminals, less two.
func long(t *testing.T, states int) *grammar.Grammar {
	t.Helper()
	return parsed(t, "S -> "+strings.Repeat("a ", states-2))
}

// The examples of the chapter.
func TestExamples(t *testing.T) {
	g := sums(t)
	states, e := lr.States(g)
	if wantErrno(t, "States", e, api.OK); len(states) != 12 {
		t.Fatalf("%d states", len(states))
	}
	wantItems(t, "the first state", states[0], "0.0 1.0 2.0 3.0 4.0 5.0 6.0")
	x, conflicts := built(t, g, lr.SLR)
	wantConflicts(t, "sums", conflicts)
	wantItems(t, "the state behind E", states[x.Goto[0][0]], "0.1 6.1")
	wantDrive(t, x, numbers(t, g, "id + id * id"), 5, 3, 1, 5, 3, 5, 2, 0)
	wantStop(t, x, numbers(t, g, "id + )"), 2, api.ErrSyntax, 2, 4)
	h := parsed(t, unclear)
	_, conflicts = built(t, h, lr.LALR)
	wantNumber(t, "conflicts", len(conflicts), 4)
	x, conflicts = built(t, h, lr.LALR, lr.Prec{Level: 1, Side: lr.Left}, lr.Prec{Level: 2, Side: lr.Left})
	wantConflicts(t, "with levels", conflicts)
	wantDrive(t, x, numbers(t, h, "id + id * id"), 2, 2, 2, 1, 0)
	x, conflicts = built(t, h, lr.LALR, lr.Prec{Level: 2, Side: lr.Left}, lr.Prec{Level: 1, Side: lr.Left})
	wantConflicts(t, "with other levels", conflicts)
	wantDrive(t, x, numbers(t, h, "id + id * id"), 2, 2, 0, 2, 1)
	p := parsed(t, pointers...)
	_, conflicts = built(t, p, lr.SLR)
	wantNumber(t, "conflicts by SLR", len(conflicts), 1)
	_, conflicts = built(t, p, lr.LALR)
	wantNumber(t, "conflicts by LALR", len(conflicts), 0)
}

// A grammar that is nil, ahead of all else that is wrong.
func TestNilGrammar(t *testing.T) {
	if states, e := lr.States(nil); len(states) != 0 || e != api.ErrNil {
		t.Errorf("States(nil) = %v, %v", states, e)
	}
	for _, kind := range []int{lr.SLR, lr.LALR, 0, -1, 3} {
		for _, n := range []int{0, -1, 1 << 40} {
			if look, e := lr.Look(nil, kind, n, n); len(look) != 0 || e != api.ErrNil {
				t.Errorf("Look(nil, %d, %d, %d) = %v, %v", kind, n, n, look, e)
			}
		}
		for _, prec := range [][]lr.Prec{nil, {{}}, {{Level: -1}}, {{Side: 4}}} {
			if x, conflicts, e := lr.Build(nil, kind, prec); !isZero(x) || len(conflicts) != 0 || e != api.ErrNil {
				t.Errorf("Build(nil, %d, %v) = %v, %v, %v", kind, prec, x, conflicts, e)
			}
		}
	}
}

// MaxItems states, and one more, which is told ahead of wrong arguments.
func TestMaxItems(t *testing.T) {
	g := long(t, api.MaxItems)
	states, e := lr.States(g)
	if wantErrno(t, "States", e, api.OK); len(states) != api.MaxItems {
		t.Fatalf("%d states", len(states))
	}
	wantItems(t, "the last state", states[api.MaxItems-1], "0.1022")
	for _, kind := range []int{lr.SLR, lr.LALR} {
		look, e := lr.Look(g, kind, api.MaxItems-1, 0)
		wantErrno(t, "Look", e, api.OK)
		wantInts(t, "Look", look, 1)
		x, conflicts := built(t, g, kind)
		wantConflicts(t, "a long rule", conflicts)
		if len(x.Action) != api.MaxItems || len(x.Goto) != api.MaxItems || !lr.Valid(x) {
			t.Errorf("%d rows, %d rows, %v", len(x.Action), len(x.Goto), lr.Valid(x))
		}
		wantDrive(t, x, make([]int, api.MaxItems-2), 0)
		wantStop(t, x, make([]int, api.MaxItems-3), api.MaxItems-3, api.ErrSyntax, 0)
		wantStop(t, x, make([]int, api.MaxItems-1), api.MaxItems-2, api.ErrSyntax, 1)
	}
	for _, more := range []int{api.MaxItems + 1, api.MaxItems + 2, 3 * api.MaxItems, 300000} {
		wantTooBig(t, long(t, more))
	}
	wantTooBig(t, parsed(t, "S -> A B", "A -> "+strings.Repeat("a ", 600), "B -> "+strings.Repeat("b ", 600)))
	wantTooBig(t, parsed(t, "S -> "+strings.Repeat("S ", 2000)))
	g = parsed(t, "S -> a", "U -> "+strings.Repeat("a ", 300000)) // which the start does not reach
	states, e = lr.States(g)
	if wantErrno(t, "States", e, api.OK); len(states) != 3 {
		t.Errorf("%d states", len(states))
	}
	for _, kind := range []int{lr.SLR, lr.LALR} {
		x, _ := built(t, g, kind)
		wantInts(t, "Size", x.Size, 1, 300000)
	}
}

func wantTooBig(t *testing.T, g *grammar.Grammar) {
	t.Helper()
	if states, e := lr.States(g); len(states) != 0 || e != api.ErrBig {
		t.Errorf("States: %d, %v", len(states), e)
	}
	for _, kind := range []int{lr.SLR, lr.LALR, 0, 3} {
		for _, n := range []int{0, -1, 1 << 40} {
			if look, e := lr.Look(g, kind, n, n); len(look) != 0 || e != api.ErrBig {
				t.Errorf("Look: %v, %v", look, e)
			}
		}
		for _, prec := range [][]lr.Prec{nil, {{Level: -1}}, {{Side: 4}}, make([]lr.Prec, 200)} {
			if x, conflicts, e := lr.Build(g, kind, prec); !isZero(x) || len(conflicts) != 0 || e != api.ErrBig {
				t.Errorf("Build: %v, %v, %v", x, conflicts, e)
			}
		}
	}
}
