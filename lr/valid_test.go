package lr_test

import (
	"math"
	"testing"

	"orrery/api"
	"orrery/lr"
)

// wide: tables of errors, with so many states, actions, places of Goto and rules.
func wide(states, actions, ways, rules int) lr.Table {
	x := lr.Table{Left: make([]int, rules), Size: make([]int, rules)}
	for range states {
		x.Action = append(x.Action, make([]int, actions))
		goes := make([]int, ways)
		for i := range goes {
			goes[i] = -1
		}
		x.Goto = append(x.Goto, goes)
	}
	return x
}

// bent: other tables, after a change.
func bent(x lr.Table, change func(x *lr.Table)) lr.Table {
	y := copied(x)
	change(&y)
	return y
}

// wantNone: no call takes these tables.
func wantNone(t *testing.T, what string, x lr.Table) {
	t.Helper()
	if lr.Valid(x) {
		t.Errorf("%s: Valid", what)
	}
	if rules, at, e := lr.Drive(x, nil); len(rules) != 0 || at != 0 || e != api.ErrArg {
		t.Errorf("%s: Drive = %v, %d, %v", what, rules, at, e)
	}
	if all, e := lr.Expected(x, nil); len(all) != 0 || e != api.ErrArg {
		t.Errorf("%s: Expected = %v, %v", what, all, e)
	}
	leaf, node := func(int) string { return "?" }, func(int, []string) string { return "?" }
	if v, at, e := lr.Fold(x, nil, leaf, node); v != "" || at != 0 || e != api.ErrArg {
		t.Errorf("%s: Fold = %q, %d, %v", what, v, at, e)
	}
	if words, e := lr.Pack(x); len(words) != 0 || e != api.ErrArg {
		t.Errorf("%s: Pack = %v, %v", what, words, e)
	}
}

func wantSome(t *testing.T, what string, x lr.Table) {
	t.Helper()
	if !lr.Valid(x) {
		t.Errorf("%s: not Valid", what)
	}
}

// F14.3: how many states, actions, places and rules there may be.
func TestValidSizes(t *testing.T) {
	for _, n := range [][4]int{{1, 1, 1, 0}, {1, 1, 1, 1}, {3, 2, 2, 2}, {api.MaxItems, 1, 1, 0}, {1, api.MaxSymbols, 1, 0}, {1, 1, api.MaxSymbols, 0}, {1, 1, 1, api.MaxRules}, {api.MaxItems, api.MaxSymbols, api.MaxSymbols, api.MaxRules}} {
		wantSome(t, "a table", wide(n[0], n[1], n[2], n[3]))
	}
	for _, n := range [][4]int{{0, 1, 1, 0}, {1, 0, 1, 0}, {1, 1, 0, 0}, {1, 0, 0, 0}, {0, 0, 0, 0}, {api.MaxItems + 1, 1, 1, 0}, {1, api.MaxSymbols + 1, 1, 0}, {1, 1, api.MaxSymbols + 1, 0}, {1, 1, 1, api.MaxRules + 1}} {
		wantNone(t, "a table of a wrong size", wide(n[0], n[1], n[2], n[3]))
	}
	wantNone(t, "nothing", lr.Table{})
	x := wide(3, 2, 2, 2)
	for state := range 3 {
		wantNone(t, "one action less", bent(x, func(y *lr.Table) { y.Action[state] = make([]int, 1) }))
		wantNone(t, "one action more", bent(x, func(y *lr.Table) { y.Action[state] = make([]int, 3) }))
		wantNone(t, "no action", bent(x, func(y *lr.Table) { y.Action[state] = nil }))
		wantNone(t, "one place less", bent(x, func(y *lr.Table) { y.Goto[state] = make([]int, 1) }))
		wantNone(t, "one place more", bent(x, func(y *lr.Table) { y.Goto[state] = make([]int, 3) }))
		wantNone(t, "no place", bent(x, func(y *lr.Table) { y.Goto[state] = nil }))
	}
	wantNone(t, "a row of Action less", bent(x, func(y *lr.Table) { y.Action = y.Action[:2] }))
	wantNone(t, "a row of Goto less", bent(x, func(y *lr.Table) { y.Goto = y.Goto[:2] }))
	wantNone(t, "no row of Goto", bent(x, func(y *lr.Table) { y.Goto = nil }))
	wantNone(t, "no row of Action", bent(x, func(y *lr.Table) { y.Action = nil }))
	wantNone(t, "one of Left less", bent(x, func(y *lr.Table) { y.Left = y.Left[:1] }))
	wantNone(t, "one of Size less", bent(x, func(y *lr.Table) { y.Size = y.Size[:1] }))
	wantNone(t, "none of Left", bent(x, func(y *lr.Table) { y.Left = nil }))
	wantNone(t, "none of Size", bent(x, func(y *lr.Table) { y.Size = nil }))
}

// F14.3: which numbers may stand in the tables.
func TestValidNumbers(t *testing.T) {
	x := wide(3, 3, 4, 2)
	far := []int{math.MinInt, math.MaxInt, -1 << 32, 1 << 32, lr.Accept - 1, lr.Accept + 1, -lr.Accept}
	check := func(what string, place func(y *lr.Table) *int, right, wrong []int) {
		t.Helper()
		for _, n := range right {
			wantSome(t, what, bent(x, func(y *lr.Table) { *place(y) = n }))
		}
		for _, n := range append(wrong, far...) {
			wantNone(t, what, bent(x, func(y *lr.Table) { *place(y) = n }))
		}
	}
	for state := range 3 {
		for symbol := range 2 {
			check("an action", func(y *lr.Table) *int { return &y.Action[state][symbol] }, []int{0, 1, 2, 3, -1, -2}, []int{4, -3, lr.Accept})
		}
		check("an action at the end", func(y *lr.Table) *int { return &y.Action[state][2] }, []int{0, -1, -2, lr.Accept}, []int{1, 2, 3, 4, -3})
		for way := range 4 {
			check("a number of Goto", func(y *lr.Table) *int { return &y.Goto[state][way] }, []int{-1, 0, 1, 2}, []int{-2, 3, lr.Accept})
		}
	}
	for rule := range 2 {
		check("a number of Left", func(y *lr.Table) *int { return &y.Left[rule] }, []int{0, 1, 2, 3}, []int{-1, 4, lr.Accept})
		check("a Size", func(y *lr.Table) *int { return &y.Size[rule] }, []int{0, 1, 100, api.MaxText - 1, api.MaxText}, []int{-1, api.MaxText + 1, 1<<31 - 1, 1 << 31, lr.Accept})
	}
	bare := wide(1, 2, 1, 0)
	for _, action := range []int{-1, -2} {
		wantNone(t, "a rule, without rules", bent(bare, func(y *lr.Table) { y.Action[0][0] = action }))
		wantNone(t, "a rule, without rules", bent(bare, func(y *lr.Table) { y.Action[0][1] = action }))
	}
	wantNone(t, "going on at the end alone", bent(wide(1, 1, 1, 0), func(y *lr.Table) { y.Action[0][0] = 1 }))
	wantSome(t, "Accept at the end alone", bent(wide(1, 1, 1, 0), func(y *lr.Table) { y.Action[0][0] = lr.Accept }))
	full := wide(api.MaxItems, api.MaxSymbols, api.MaxSymbols, api.MaxRules)
	last := api.MaxItems - 1
	wantSome(t, "the last state", bent(full, func(y *lr.Table) { y.Action[last][0], y.Goto[last][127] = api.MaxItems, last }))
	wantNone(t, "a state behind the last", bent(full, func(y *lr.Table) { y.Action[last][0] = api.MaxItems + 1 }))
	wantNone(t, "a state behind the last", bent(full, func(y *lr.Table) { y.Goto[last][127] = api.MaxItems }))
	wantSome(t, "the last rule", bent(full, func(y *lr.Table) { y.Action[last][127], y.Left[127] = -api.MaxRules, 127 }))
	wantNone(t, "a rule behind the last", bent(full, func(y *lr.Table) { y.Action[last][127] = -api.MaxRules - 1 }))
}
