package lr

import (
	"slices"

	"orrery/api"
)

// Drive: F14.4.
func Drive(t Table, tokens []int) (rules []int, at int, e api.Errno) {
	if e = refused(t, tokens); e != api.OK {
		return nil, 0, e
	}
	_, at, e = run(t, tokens, func(int) {}, func(rule int) { rules = append(rules, rule) })
	if e != api.OK {
		return nil, at, e
	}
	return rules, 0, api.OK
}

// Expected: F14.4.
func Expected(t Table, tokens []int) ([]int, api.Errno) {
	if e := refused(t, tokens); e != api.OK {
		return nil, e
	}
	top, _, e := run(t, tokens, func(int) {}, func(int) {})
	if e != api.ErrSyntax {
		return nil, api.OK
	}
	var all []int
	for symbol, action := range t.Action[top] {
		if action != failure {
			all = append(all, symbol)
		}
	}
	return all, api.OK
}

// Fold: F14.5.
func Fold[V any](t Table, tokens []int, leaf func(i int) V, node func(rule int, parts []V) V) (V, int, api.Errno) {
	var zero V
	if leaf == nil || node == nil {
		return zero, 0, api.ErrNil
	}
	if e := refused(t, tokens); e != api.OK {
		return zero, 0, e
	}
	own := copied(t) // since leaf and node may write into what was handed in
	var worth []V    // of each state above the first one that of its symbol
	gone := func(i int) { worth = append(worth, leaf(i)) }
	noted := func(rule int) {
		under := len(worth) - own.Size[rule]
		parts := slices.Clone(worth[under:])
		worth = append(worth[:under], node(rule, parts))
	}
	_, at, e := run(own, slices.Clone(tokens), gone, noted)
	if e != api.OK {
		return zero, at, e
	}
	if len(worth) == 0 {
		return zero, 0, api.OK
	}
	return worth[len(worth)-1], 0, api.OK
}

func copied(t Table) Table {
	return Table{Action: copiedRows(t.Action), Goto: copiedRows(t.Goto), Left: slices.Clone(t.Left), Size: slices.Clone(t.Size)}
}

func copiedRows(rows [][]int) [][]int {
	var all [][]int
	for _, row := range rows {
		all = append(all, slices.Clone(row))
	}
	return all
}

// refused: what is told of the tables and the tokens ahead of driving.
func refused(t Table, tokens []int) api.Errno {
	if !Valid(t) || !areWithin(tokens, 0, len(t.Action[0])-2) {
		return api.ErrArg
	}
	if len(tokens) > api.MaxMemory {
		return api.ErrBig
	}
	return api.OK
}

// run: tells gone of each token that is gone by, and noted of each rule; top is the state that lies on top in the end, and at how many tokens have been gone by.
func run(t Table, tokens []int, gone, noted func(int)) (top, at int, e api.Errno) {
	stack := []int{0}
	end := len(t.Action[0]) - 1
	open := api.MaxItems * (len(tokens) + 1) // how many rules may yet be noted
	for {
		top = stack[len(stack)-1]
		symbol := end
		if at < len(tokens) {
			symbol = tokens[at]
		}
		action := t.Action[top][symbol]
		if action == Accept {
			return top, at, api.OK
		}
		if action == failure {
			return top, at, api.ErrSyntax
		}
		if action > failure {
			stack = append(stack, action-1)
			gone(at)
			at++
			continue
		}
		rule := ruleOf(action)
		under := len(stack) - t.Size[rule]
		if under < 1 {
			return top, at, api.ErrSyntax
		}
		stack = stack[:under]
		top = stack[under-1]
		to := t.Goto[top][t.Left[rule]]
		if to == nowhere {
			return top, at, api.ErrSyntax
		}
		if open == 0 {
			return top, at, api.ErrBig
		}
		open--
		stack = append(stack, to)
		noted(rule)
	}
}
