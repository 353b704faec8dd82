package lr_test

import (
	"fmt"
	"math"
	"math/rand"
	"testing"

	"orrery/api"
	"orrery/lr"
)

// F14.2: tables, number by number.
func TestBuild(t *testing.T) {
	x, _ := plain(t, lr.SLR, "S -> a S | T", "T -> b") // a 0, b 1, the end 2, S 3, T 4; states: a 1, b 2, S 3, T 4, a S 5
	wantTable(t, "by SLR", x, lr.Table{
		Action: [][]int{{2, 3, 0}, {2, 3, 0}, {0, 0, -3}, {0, 0, lr.Accept}, {0, 0, -2}, {0, 0, -1}},
		Goto:   [][]int{{3, 4}, {5, 4}, {-1, -1}, {-1, -1}, {-1, -1}, {-1, -1}},
		Left:   []int{0, 0, 1},
		Size:   []int{2, 1, 1},
	})
	x, _ = plain(t, lr.LALR, "S -> a S b |") // states: a 1, S 2, a S 3, a S b 4
	wantTable(t, "by LALR", x, lr.Table{
		Action: [][]int{{2, 0, -2}, {2, -2, 0}, {0, 0, lr.Accept}, {0, 5, 0}, {0, -1, -1}},
		Goto:   [][]int{{2}, {3}, {-1}, {-1}, {-1}},
		Left:   []int{0, 0},
		Size:   []int{3, 0},
	})
	x, _ = plain(t, lr.SLR, "S -> a S b |")
	wantTable(t, "by SLR", x, lr.Table{
		Action: [][]int{{2, -2, -2}, {2, -2, -2}, {0, 0, lr.Accept}, {0, 5, 0}, {0, -1, -1}},
		Goto:   [][]int{{2}, {3}, {-1}, {-1}, {-1}},
		Left:   []int{0, 0},
		Size:   []int{3, 0},
	})
	g := made(t, list{"a"}, list{"bare", "S", "alone"}, "S", list{"S", "bare", "a"}, list{"alone", "S", "S"})
	x, conflicts := built(t, g, lr.LALR)
	wantConflicts(t, "a nonterminal without a rule", conflicts)
	wantTable(t, "a nonterminal without a rule", x, lr.Table{
		Action: [][]int{{0, 0}, {4, 0}, {0, lr.Accept}, {0, -1}},
		Goto:   [][]int{{1, 2, -1}, {-1, -1, -1}, {-1, -1, -1}, {-1, -1, -1}},
		Left:   []int{1, 2},
		Size:   []int{2, 2},
	})
}

// twoSums has one conflict: behind E + E, in the state 4, at +, to go on to the state 3, or by the rule 0.
const twoSums = "E -> E + E | id"

// F14.2: one Level with each of the four Sides, and Level 0.
func TestSides(t *testing.T) {
	g := parsed(t, twoSums)
	for _, kind := range []int{lr.SLR, lr.LALR} {
		for side, want := range map[int]int{lr.None: 4, lr.Left: -1, lr.Right: 4, lr.Apart: 0} {
			for _, level := range []int{1, 2, 1 << 40, math.MaxInt} {
				x, conflicts := built(t, g, kind, lr.Prec{Level: level, Side: side})
				wantNumber(t, fmt.Sprint("Side ", side), x.Action[4][0], want)
				wantNumber(t, "at the end", x.Action[4][2], -1)
				wantConflicts(t, "with a level", conflicts)
			}
			x, conflicts := built(t, g, kind, lr.Prec{Level: 0, Side: side})
			wantNumber(t, "Level 0", x.Action[4][0], 4)
			wantConflicts(t, "Level 0", conflicts, lr.Conflict{State: 4, Symbol: 0, Kept: 4, Lost: -1})
		}
	}
	x, _ := built(t, g, lr.LALR, lr.Prec{Level: 1, Side: lr.Apart})
	wantDrive(t, x, numbers(t, g, "id + id"), 1, 1, 0)
	wantStop(t, x, numbers(t, g, "id + id + id"), 3, api.ErrSyntax, 2)
	x, _ = built(t, g, lr.LALR, lr.Prec{Level: 1, Side: lr.Left})
	wantDrive(t, x, numbers(t, g, "id + id + id"), 1, 1, 0, 1, 0)
	x, _ = built(t, g, lr.LALR, lr.Prec{Level: 1, Side: lr.Right})
	wantDrive(t, x, numbers(t, g, "id + id + id"), 1, 1, 1, 0, 0)
}

// F14.2: Levels of a rule's last terminal and of the terminal ahead. In unclear the states behind E + E and E * E are 5 and 6; they go on by + to 3, by * to 4.
func TestLevels(t *testing.T) {
	g := parsed(t, unclear)
	const l, r = lr.Left, lr.Right
	for _, c := range []struct {
		plus, star lr.Prec
		actions    [4]int // behind E + E at +, at *, behind E * E at +, at *
		told       int
	}{
		{lr.Prec{}, lr.Prec{}, [4]int{4, 5, 4, 5}, 4},
		{lr.Prec{Level: 1, Side: l}, lr.Prec{Level: 2, Side: l}, [4]int{-1, 5, -2, -2}, 0},
		{lr.Prec{Level: 2, Side: l}, lr.Prec{Level: 1, Side: l}, [4]int{-1, -1, 4, -2}, 0},
		{lr.Prec{Level: 1, Side: r}, lr.Prec{Level: 2, Side: r}, [4]int{4, 5, -2, 5}, 0},
		{lr.Prec{Level: 3, Side: lr.Apart}, lr.Prec{Level: 2, Side: lr.None}, [4]int{0, -1, 4, 5}, 0},
		{lr.Prec{Level: 1, Side: l}, lr.Prec{Level: 1, Side: r}, [4]int{-1, 5, -2, 5}, 0},        // it is the side of the terminal ahead that counts,
		{lr.Prec{Level: 1, Side: lr.Apart}, lr.Prec{Level: 1, Side: l}, [4]int{0, -1, 0, -2}, 0}, // not that of the rule's
		{lr.Prec{Level: 1, Side: l}, lr.Prec{}, [4]int{-1, 5, 4, 5}, 3},                          // Level 0 on one side, on both
		{lr.Prec{}, lr.Prec{Level: 7, Side: l}, [4]int{4, 5, 4, -2}, 3},
		{lr.Prec{Level: 1, Side: lr.Apart}, lr.Prec{Level: 0, Side: lr.Apart}, [4]int{0, 5, 4, 5}, 3},
	} {
		for _, kind := range []int{lr.SLR, lr.LALR} {
			x, conflicts := built(t, g, kind, c.plus, c.star)
			got := [4]int{x.Action[5][0], x.Action[5][1], x.Action[6][0], x.Action[6][1]}
			if got != c.actions || len(conflicts) != c.told {
				t.Errorf("%v, %v: %v, %v, not %v, %d", c.plus, c.star, got, conflicts, c.actions, c.told)
			}
			for _, k := range conflicts {
				if k.Kept != x.Action[k.State][k.Symbol] || k.Lost != 4-k.State {
					t.Errorf("%v, %v: %v", c.plus, c.star, k)
				}
			}
		}
	}
}

// F14.2: a rule's Level is that of its last terminal alone, and a rule without one has none.
func TestLevelOfARule(t *testing.T) {
	for _, c := range []struct {
		lines  list
		prec   map[string]lr.Prec
		input  string
		rules  []int
		silent bool
	}{
		{list{"E -> a E b E | E + E | id"}, map[string]lr.Prec{"a": {Level: 9, Side: lr.Left}, "b": {Level: 1}, "+": {Level: 2, Side: lr.Left}}, "a id b id + id", []int{2, 2, 2, 1, 0}, true},
		{list{"E -> a E b E | E + E | id"}, map[string]lr.Prec{"a": {Level: 1, Side: lr.Left}, "b": {Level: 3}, "+": {Level: 2, Side: lr.Left}}, "a id b id + id", []int{2, 2, 0, 2, 1}, true},
		{list{"E -> - E | E + E | id"}, map[string]lr.Prec{"-": {Level: 2}, "+": {Level: 1, Side: lr.Left}}, "- id + id", []int{2, 0, 2, 1}, true},
		{list{"E -> - E | E + E | id"}, map[string]lr.Prec{"-": {Level: 1}, "+": {Level: 2, Side: lr.Left}}, "- id + id", []int{2, 2, 1, 0}, true},
		{list{"E -> E E | id"}, map[string]lr.Prec{"id": {Level: 1, Side: lr.Left}}, "id id id", []int{1, 1, 1, 0, 0}, false},
		{list{"E -> E P E | id", "P -> +"}, map[string]lr.Prec{"+": {Level: 1, Side: lr.Left}, "id": {Level: 2}}, "id + id + id", []int{1, 2, 1, 2, 1, 0, 0}, false},
		{list{"S -> A x x | x", "A ->"}, map[string]lr.Prec{"x": {Level: 1, Side: lr.Left}}, "x", []int{1}, false},
	} {
		g := parsed(t, c.lines...)
		prec := make([]lr.Prec, g.Terminals())
		for name, p := range c.prec {
			prec[numbers(t, g, name)[0]] = p
		}
		x, conflicts := built(t, g, lr.LALR, prec...)
		if (len(conflicts) == 0) != c.silent {
			t.Errorf("%q: %v", c.lines, conflicts)
		}
		wantDrive(t, x, numbers(t, g, c.input), c.rules...)
	}
}

// F14.2: several rules at one terminal, and Accept and a rule.
func TestConflictsOfRules(t *testing.T) {
	const accept = lr.Accept
	for _, c := range []struct {
		lines list
		want  []lr.Conflict
	}{
		{list{"S -> A | B", "A -> a", "B -> a"}, []lr.Conflict{{State: 1, Symbol: 1, Kept: -3, Lost: -4}}},
		{list{"S -> a | a | a"}, []lr.Conflict{{State: 1, Symbol: 1, Kept: -1, Lost: -2}, {State: 1, Symbol: 1, Kept: -1, Lost: -3}}},
		{list{"S -> | "}, []lr.Conflict{{State: 0, Symbol: 0, Kept: -1, Lost: -2}}},
		{list{"S -> S | a"}, []lr.Conflict{{State: 2, Symbol: 1, Kept: accept, Lost: -1}}},
		{list{"S -> a | S | T", "T -> S"}, []lr.Conflict{{State: 2, Symbol: 1, Kept: accept, Lost: -2}, {State: 2, Symbol: 1, Kept: accept, Lost: -4}}},
		{list{"S -> T b | U b | T c | U c", "T -> a", "U -> a"}, []lr.Conflict{{State: 1, Symbol: 0, Kept: -5, Lost: -6}, {State: 1, Symbol: 1, Kept: -5, Lost: -6}}},
	} {
		g := parsed(t, c.lines...)
		for _, kind := range []int{lr.SLR, lr.LALR} {
			for _, prec := range [][]lr.Prec{nil, {{Level: 1, Side: lr.Apart}}, {{Level: 2, Side: lr.Left}}} { // which tell nothing between rules
				x, conflicts := built(t, g, kind, prec...)
				wantConflicts(t, fmt.Sprint(c.lines), conflicts, c.want...)
				for _, k := range c.want {
					wantNumber(t, fmt.Sprint(c.lines), x.Action[k.State][k.Symbol], k.Kept)
				}
			}
		}
	}
}

// F14.2: going on and several rules, of which the least one alone is held against going on.
func TestConflictsOfGoingOnAndRules(t *testing.T) {
	twins := list{"S -> A c | B c | x c", "A -> x", "B -> x"} // c 0, x 1; behind x, in the state 1, going on to 5
	sided := list{"S -> x A c | B c | x N c", "A -> N", "B -> x N", "N -> n"}
	turned := list{"S -> x A c | B c | x N c", "B -> x N", "A -> N", "N -> n"} // x 0, c 1, n 2
	on := func(lines list, state, symbol int) int {
		x, _ := built(t, parsed(t, lines...), lr.LALR, lr.Prec{Level: 2}, lr.Prec{Level: 2})
		return x.Action[state][symbol]
	}
	at := stateOf(t, parsed(t, sided...), "2.2 3.1 4.2")
	if stateOf(t, parsed(t, turned...), "2.2 3.2 4.1") != at {
		t.Fatal("another state")
	}
	two, go1, go2 := lr.Prec{Level: 2, Side: lr.Left}, on(twins, 1, 0), on(turned, at, 1)
	for _, c := range []struct {
		lines        list
		first, other lr.Prec // of the terminals 0 and 1
		state        int
		symbol, kept int
		lost         []int
	}{
		{twins, lr.Prec{}, lr.Prec{}, 1, 0, go1, []int{-4, -5}},
		{twins, two, lr.Prec{}, 1, 0, go1, []int{-4, -5}},
		{twins, lr.Prec{}, two, 1, 0, go1, []int{-4, -5}},
		{twins, two, lr.Prec{Level: 3}, 1, 0, -4, []int{-5}},
		{twins, two, lr.Prec{Level: 2}, 1, 0, -4, []int{-5}},
		{twins, two, lr.Prec{Level: 1}, 1, 0, go1, []int{-5}},
		{twins, lr.Prec{Level: 2, Side: lr.Right}, two, 1, 0, go1, []int{-5}},
		{twins, lr.Prec{Level: 2, Side: lr.Apart}, two, 1, 0, 0, []int{-5}},
		{sided, two, two, at, 1, go2, []int{-4, -5}}, // the least rule has no terminal
		{turned, two, two, at, 1, -4, []int{-5}},
		{turned, two, lr.Prec{Level: 2, Side: lr.Apart}, at, 1, 0, []int{-5}},
	} {
		g := parsed(t, c.lines...)
		var want []lr.Conflict
		for _, lost := range c.lost {
			want = append(want, lr.Conflict{State: c.state, Symbol: c.symbol, Kept: c.kept, Lost: lost})
		}
		for _, kind := range []int{lr.SLR, lr.LALR} {
			x, conflicts := built(t, g, kind, c.first, c.other)
			wantConflicts(t, fmt.Sprint(c.lines, c.first, c.other), conflicts, want...)
			wantNumber(t, fmt.Sprint(c.lines, c.first, c.other), x.Action[c.state][c.symbol], c.kept)
		}
	}
}

// F14.2: conflicts stand in order of states, of symbols, of rules.
func TestOrderOfConflicts(t *testing.T) {
	g := parsed(t, unclear)
	for _, kind := range []int{lr.SLR, lr.LALR} {
		_, conflicts := built(t, g, kind)
		wantConflicts(t, "unclear", conflicts,
			lr.Conflict{State: 5, Symbol: 0, Kept: 4, Lost: -1}, lr.Conflict{State: 5, Symbol: 1, Kept: 5, Lost: -1},
			lr.Conflict{State: 6, Symbol: 0, Kept: 4, Lost: -2}, lr.Conflict{State: 6, Symbol: 1, Kept: 5, Lost: -2})
	}
}

// F14.2: a list of Prec that is shorter than the terminals, as long, and longer.
func TestLengthsOfPrec(t *testing.T) {
	g := parsed(t, unclear) // +, *, id, the end
	plus := lr.Prec{Level: 1, Side: lr.Left}
	for n := range 5 {
		prec := make([]lr.Prec, n)
		if n > 0 {
			prec[0] = plus
		}
		x, conflicts := built(t, g, lr.LALR, prec...)
		if n == 0 {
			wantNumber(t, "conflicts", len(conflicts), 4)
			continue
		}
		wantNumber(t, "conflicts", len(conflicts), 3)
		wantNumber(t, "behind E + E at +", x.Action[5][0], -1)
	}
	x, _ := built(t, g, lr.LALR, plus)
	y, _ := built(t, g, lr.LALR, plus, lr.Prec{}, lr.Prec{}, lr.Prec{Level: 5, Side: lr.Apart})
	wantTable(t, "a Level of the end", y, x)
	for _, n := range []int{5, 6, 100, 1000} {
		wantNotBuilt(t, unclear, lr.LALR, make([]lr.Prec, n)...)
	}
}

func wantNotBuilt(t *testing.T, text string, kind int, prec ...lr.Prec) {
	t.Helper()
	x, conflicts, e := lr.Build(parsed(t, text), kind, prec)
	if !isZero(x) || len(conflicts) != 0 || e != api.ErrArg {
		t.Errorf("Build(%d, %v) = %v, %v, %v", kind, prec, x, conflicts, e)
	}
}

// F14.2: kinds, Levels and Sides that are none.
func TestBuildOfWrongInputs(t *testing.T) {
	for _, kind := range []int{0, 3, -1, -2, lr.Accept, math.MinInt, math.MaxInt} {
		wantNotBuilt(t, unclear, kind)
		wantNotBuilt(t, unclear, kind, lr.Prec{Level: 1, Side: lr.Left})
	}
	for at := range 4 {
		for _, wrong := range []lr.Prec{{Level: -1}, {Level: math.MinInt, Side: lr.Left}, {Side: -1}, {Side: 4}, {Level: 1, Side: math.MaxInt}, {Level: 1, Side: math.MinInt}} {
			prec := make([]lr.Prec, 4)
			prec[at] = wrong
			wantNotBuilt(t, unclear, lr.SLR, prec...)
			wantNotBuilt(t, unclear, lr.LALR, prec[:at+1]...)
			if at > 0 {
				built(t, parsed(t, unclear), lr.LALR, prec[:at]...)
			}
		}
	}
}

// F14.2: against the words of the chapter, with grammars and precedences at random.
func TestBuildByTheWords(t *testing.T) {
	r := rand.New(rand.NewSource(1403))
	clean, told, settled := 0, 0, 0
	for range 1000 {
		g := small(t, r, 4)
		s := slowly(g)
		for _, kind := range []int{lr.SLR, lr.LALR} {
			_, bare := built(t, g, kind)
			for range 3 {
				prec := somePrecs(r, g)
				x, conflicts := built(t, g, kind, prec...)
				y, wanted := s.build(kind, prec)
				what := fmt.Sprintf("%q, %v", g.Text(), prec)
				wantTable(t, what, x, y)
				wantConflicts(t, what, conflicts, wanted...)
				if !lr.Valid(x) {
					t.Errorf("%s: no table", what)
				}
				switch {
				case len(bare) == 0:
					clean++
				case len(conflicts) < len(bare):
					settled++
				default:
					told++
				}
			}
		}
	}
	if clean < 500 || told < 500 || settled < 500 {
		t.Errorf("that tells little: %d, %d, %d", clean, told, settled)
	}
}

// P1403: prec changes nothing but actions at which there was a conflict.
func TestPrecChangesConflictsAlone(t *testing.T) {
	r := rand.New(rand.NewSource(1404))
	changed, left := 0, 0
	for range 4000 {
		g := small(t, r, 4)
		kind := 1 + r.Intn(2)
		bare, conflicts := built(t, g, kind)
		open := map[[2]int]bool{}
		for _, c := range conflicts {
			open[[2]int{c.State, c.Symbol}] = true
		}
		x, _ := built(t, g, kind, somePrecs(r, g)...)
		for state, row := range x.Action {
			for symbol, action := range row {
				if action == bare.Action[state][symbol] {
					left++
					continue
				}
				changed++
				if !open[[2]int{state, symbol}] {
					t.Errorf("%q: %d at %d was %d, without a conflict", g.Text(), action, symbol, bare.Action[state][symbol])
				}
			}
		}
		x.Action = bare.Action
		wantTable(t, g.Text(), x, bare)
	}
	if changed < 200 || left < 2000 {
		t.Errorf("that tells little: %d, %d", changed, left)
	}
}
