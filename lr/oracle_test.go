package lr_test

import (
	"cmp"
	"maps"
	"math/rand"
	"slices"
	"testing"

	"orrery/api"
	"orrery/grammar"
	"orrery/lr"
)

// A second working-out, by the words of the chapter, with sets as maps: slow, and without a key for a state.

type items map[lr.Item]bool

type slow struct {
	g      *grammar.Grammar
	rules  []grammar.Rule // and the first rule of all
	states []items
	next   []map[int]int
}

func slowly(g *grammar.Grammar) *slow {
	s := &slow{g: g, rules: append(g.Rules(), grammar.Rule{Left: -1, Right: []int{g.Start()}})}
	s.states = []items{s.closed(items{{Rule: len(s.rules) - 1}: true})}
	for n := 0; n < len(s.states); n++ {
		s.next = append(s.next, map[int]int{})
		for symbol := range g.Symbols() {
			kernel := items{}
			for item := range s.states[n] {
				if s.ahead(item) == symbol {
					kernel[lr.Item{Rule: item.Rule, Dot: item.Dot + 1}] = true
				}
			}
			if len(kernel) == 0 {
				continue
			}
			to := s.closed(kernel)
			at := slices.IndexFunc(s.states, func(other items) bool { return maps.Equal(other, to) })
			if at < 0 {
				at = len(s.states)
				s.states = append(s.states, to)
			}
			s.next[n][symbol] = at
		}
	}
	return s
}

// ahead: the symbol that the point stands ahead of; -1, if it stands at the end.
func (s *slow) ahead(item lr.Item) int {
	if right := s.rules[item.Rule].Right; item.Dot < len(right) {
		return right[item.Dot]
	}
	return -1
}

func (s *slow) closed(kernel items) items {
	all := maps.Clone(kernel)
	waiting := slices.Collect(maps.Keys(kernel))
	for len(waiting) > 0 {
		left := s.ahead(waiting[0])
		waiting = waiting[1:]
		for n, r := range s.rules {
			start := lr.Item{Rule: n}
			if left >= 0 && r.Left == left && !all[start] {
				all[start] = true
				waiting = append(waiting, start)
			}
		}
	}
	return all
}

// told: a state's items in order.
func (s *slow) told(state int) []lr.Item {
	return slices.SortedFunc(maps.Keys(s.states[state]), func(a, b lr.Item) int {
		return cmp.Or(a.Rule-b.Rule, a.Dot-b.Dot)
	})
}

// ended: has the state the item of that rule with its point at its end?
func (s *slow) ended(state, rule int) bool {
	return s.states[state][lr.Item{Rule: rule, Dot: len(s.rules[rule].Right)}]
}

// looks: for each state and each rule whose end it has the lookahead.
func (s *slow) looks(kind int) []map[int]map[int]bool {
	if kind == lr.LALR {
		return s.merged()
	}
	all := make([]map[int]map[int]bool, len(s.states))
	for state := range s.states {
		all[state] = map[int]map[int]bool{}
		for rule, r := range s.rules {
			if !s.ended(state, rule) {
				continue
			}
			all[state][rule] = map[int]bool{}
			for _, terminal := range s.g.Follow(r.Left) {
				all[state][rule][terminal] = true
			}
			if r.Left < 0 {
				all[state][rule][s.g.Terminals()-1] = true
			}
		}
	}
	return all
}

// one: an item with one terminal that may come behind it. Each item has nothing, too, beside its terminals, so that it is there even if it has none.
type one struct {
	item lr.Item
	look int
}

const nothing = -1

type ones map[one]bool

// merged: the states of LR(1), where each item has its own terminals, laid together if their items are the same.
func (s *slow) merged() []map[int]map[int]bool {
	first, end := lr.Item{Rule: len(s.rules) - 1}, s.g.Terminals()-1
	states := []ones{s.closedOnes(ones{{first, nothing}: true, {first, end}: true})}
	for n := 0; n < len(states); n++ {
		for symbol := range s.g.Symbols() {
			kernel := ones{}
			for x := range states[n] {
				if s.ahead(x.item) == symbol {
					kernel[one{lr.Item{Rule: x.item.Rule, Dot: x.item.Dot + 1}, x.look}] = true
				}
			}
			to := s.closedOnes(kernel)
			known := slices.ContainsFunc(states, func(other ones) bool { return maps.Equal(other, to) })
			if len(kernel) > 0 && !known {
				states = append(states, to)
			}
		}
	}
	all := make([]map[int]map[int]bool, len(s.states))
	for _, state := range states {
		core := items{}
		for x := range state {
			core[x.item] = true
		}
		at := slices.IndexFunc(s.states, func(other items) bool { return maps.Equal(other, core) })
		if all[at] == nil {
			all[at] = map[int]map[int]bool{}
		}
		for x := range state {
			if s.ahead(x.item) >= 0 {
				continue
			}
			if all[at][x.item.Rule] == nil {
				all[at][x.item.Rule] = map[int]bool{}
			}
			if x.look != nothing {
				all[at][x.item.Rule][x.look] = true
			}
		}
	}
	return all
}

func (s *slow) closedOnes(kernel ones) ones {
	all := maps.Clone(kernel)
	waiting := slices.Collect(maps.Keys(kernel))
	for len(waiting) > 0 {
		x := waiting[0]
		waiting = waiting[1:]
		left := s.ahead(x.item)
		if left < s.g.Terminals() {
			continue
		}
		behind := s.rules[x.item.Rule].Right[x.item.Dot+1:]
		looks := append(s.g.First(behind), nothing)
		if s.g.Nullable(behind) {
			looks = append(looks, x.look)
		}
		for n, r := range s.rules {
			for _, look := range looks {
				y := one{lr.Item{Rule: n}, look}
				if r.Left == left && !all[y] {
					all[y] = true
					waiting = append(waiting, y)
				}
			}
		}
	}
	return all
}

// build: the tables, action by action.
func (s *slow) build(kind int, prec []lr.Prec) (lr.Table, []lr.Conflict) {
	var x lr.Table
	var conflicts []lr.Conflict
	looks, terminals := s.looks(kind), s.g.Terminals()
	for state := range s.states {
		var actions, ways []int
		for symbol := range s.g.Symbols() {
			to, goes := s.next[state][symbol]
			if symbol >= terminals {
				if !goes {
					to = -1
				}
				ways = append(ways, to)
				continue
			}
			var could []int // in the order in which conflicts are told
			for rule := range s.rules {
				if looks[state][rule][symbol] && rule < len(s.rules)-1 {
					could = append(could, -rule-1)
				}
			}
			if looks[state][len(s.rules)-1][symbol] {
				could = append(could, lr.Accept)
			}
			if goes {
				could = append(could, to+1)
			}
			kept, silent := s.keep(could, symbol, prec)
			actions = append(actions, kept)
			for _, action := range could {
				if action != kept && !slices.Contains(silent, action) {
					conflicts = append(conflicts, lr.Conflict{State: state, Symbol: symbol, Kept: kept, Lost: action})
				}
			}
		}
		x.Action, x.Goto = append(x.Action, actions), append(x.Goto, ways)
	}
	for _, r := range s.g.Rules() {
		x.Left, x.Size = append(x.Left, r.Left-terminals), append(x.Size, len(r.Right))
	}
	return x, conflicts
}

// keep: the action that is kept, and those that are lost without a conflict.
func (s *slow) keep(could []int, symbol int, prec []lr.Prec) (int, []int) {
	if slices.Contains(could, lr.Accept) {
		return lr.Accept, nil
	}
	if len(could) == 0 {
		return 0, nil
	}
	on, rule := could[len(could)-1], could[0]
	if on < 0 || rule > 0 {
		return rule, nil
	}
	of := func(terminal int) lr.Prec {
		if terminal < 0 || terminal >= len(prec) {
			return lr.Prec{}
		}
		return prec[terminal]
	}
	last := -1
	for _, x := range s.rules[-rule-1].Right {
		if x < s.g.Terminals() {
			last = x
		}
	}
	a, b := of(last), of(symbol)
	switch {
	case a.Level == 0 || b.Level == 0:
		return on, nil
	case a.Level > b.Level, a.Level == b.Level && b.Side == lr.Left:
		return rule, []int{on}
	case a.Level == b.Level && b.Side == lr.Apart:
		return 0, []int{rule, on}
	}
	return on, []int{rule}
}

// small: a grammar of few symbols at random, some of its nonterminals, it may be, without a rule, and some of no use.
func small(t *testing.T, r *rand.Rand, most int) *grammar.Grammar {
	t.Helper()
	terminals, others := list{"a", "b", "c"}[:1+r.Intn(3)], list{"S", "T", "U"}[:1+r.Intn(3)]
	all := append(slices.Clone(terminals), others...)
	var rules []list
	for range 1 + r.Intn(6) {
		rule := list{others[r.Intn(len(others))]}
		for range r.Intn(most + 1) {
			rule = append(rule, all[r.Intn(len(all))])
		}
		rules = append(rules, rule)
	}
	return made(t, terminals, others, others[r.Intn(len(others))], rules...)
}

// somePrecs: at random, for some of the terminals.
func somePrecs(r *rand.Rand, g *grammar.Grammar) []lr.Prec {
	prec := make([]lr.Prec, r.Intn(g.Terminals()+1))
	for i := range prec {
		prec[i] = lr.Prec{Level: r.Intn(3), Side: r.Intn(4)}
	}
	return prec
}

// someTable: valid tables at random, that no grammar has.
func someTable(r *rand.Rand) lr.Table {
	var x lr.Table
	states, actions, ways := 1+r.Intn(5), 1+r.Intn(4), 1+r.Intn(3)
	for range r.Intn(5) {
		x.Left, x.Size = append(x.Left, r.Intn(ways)), append(x.Size, r.Intn(4))
	}
	rules := len(x.Left)
	for range states {
		action, goes := make([]int, actions), make([]int, ways)
		for i := range action {
			if action[i] = r.Intn(rules+states+1) - rules; i < actions-1 {
				continue
			}
			if action[i] > 0 {
				action[i] = lr.Accept
			}
		}
		for i := range goes {
			goes[i] = r.Intn(states+1) - 1
			if goes[i] < 0 && r.Intn(2) > 0 {
				goes[i] = r.Intn(states)
			}
		}
		x.Action, x.Goto = append(x.Action, action), append(x.Goto, goes)
	}
	return x
}

// slowDrive: the rules, what the symbols on the stack are worth as texts, all calls of Fold, how many tokens were gone by, the state on top, and the error.
type driven struct {
	rules  []int
	worth  list
	calls  list
	at     int
	top    int
	result api.Errno
}

func slowDrive(x lr.Table, tokens []int) driven {
	type pair struct {
		state int
		worth string
	}
	var d driven
	stack := []pair{{}}
	stop := func(result api.Errno) driven {
		d.top, d.result = stack[len(stack)-1].state, result
		for _, p := range stack[1:] {
			d.worth = append(d.worth, p.worth)
		}
		return d
	}
	for {
		row := x.Action[stack[len(stack)-1].state]
		action := row[len(row)-1]
		if d.at < len(tokens) {
			action = row[tokens[d.at]]
		}
		switch {
		case action == 0:
			return stop(api.ErrSyntax)
		case action == lr.Accept:
			return stop(api.OK)
		case action > 0:
			d.calls = append(d.calls, leafText(d.at))
			stack = append(stack, pair{action - 1, leafText(d.at)})
			d.at++
			continue
		}
		rule := -action - 1
		if x.Size[rule] >= len(stack) {
			return stop(api.ErrSyntax)
		}
		var parts list
		for range x.Size[rule] {
			parts = append(parts, stack[len(stack)-1].worth)
			stack = stack[:len(stack)-1]
		}
		slices.Reverse(parts)
		to := x.Goto[stack[len(stack)-1].state][x.Left[rule]]
		if to == -1 {
			return stop(api.ErrSyntax)
		}
		if len(d.rules) == api.MaxItems*(len(tokens)+1) {
			return stop(api.ErrBig)
		}
		d.rules = append(d.rules, rule)
		d.calls = append(d.calls, nodeText(rule, parts))
		stack = append(stack, pair{to, nodeText(rule, parts)})
	}
}
