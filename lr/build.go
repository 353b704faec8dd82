package lr

import (
	"slices"

	"orrery/api"
	"orrery/grammar"
)

// builder: what a state's actions are told by.
type builder struct {
	*plan
	looks [][]set
	prec  []Prec // for each terminal
	level []int  // for each rule that of its last terminal
}

// Build: F14.2.
func Build(g *grammar.Grammar, kind int, prec []Prec) (Table, []Conflict, api.Errno) {
	p, e := planOf(g)
	if e != api.OK {
		return Table{}, nil, e
	}
	if !isKind(kind) || len(prec) > p.terminals || !arePrecs(prec) {
		return Table{}, nil, api.ErrArg
	}
	b := p.newBuilder(kind, prec)
	var t Table
	var conflicts []Conflict
	for state, row := range p.next {
		actions, lost := b.actionsOf(state)
		conflicts = append(conflicts, lost...)
		t.Action = append(t.Action, actions)
		t.Goto = append(t.Goto, slices.Clone(row[p.terminals:]))
	}
	for _, r := range p.rules[:p.first] {
		t.Left = append(t.Left, r.Left-p.terminals)
		t.Size = append(t.Size, len(r.Right))
	}
	return t, conflicts, api.OK
}

func arePrecs(prec []Prec) bool {
	for _, one := range prec {
		if one.Level < 0 || one.Side < None || one.Side > Apart {
			return false
		}
	}
	return true
}

func (p *plan) newBuilder(kind int, prec []Prec) *builder {
	b := &builder{plan: p, looks: p.lookaheads(kind), prec: make([]Prec, p.terminals)}
	copy(b.prec, prec)
	for _, r := range p.rules {
		b.level = append(b.level, b.levelOf(r.Right))
	}
	return b
}

// levelOf: that of the last terminal; 0, if there is none.
func (b *builder) levelOf(right []int) int {
	for i := len(right) - 1; i >= 0; i-- {
		if right[i] < b.terminals {
			return b.prec[right[i]].Level
		}
	}
	return 0
}

// actionsOf: what a state does at each terminal, and what it does not do there though it could.
func (b *builder) actionsOf(state int) ([]int, []Conflict) {
	var ended []int
	for _, item := range b.states[state] {
		if b.isEnd(item) {
			ended = append(ended, item.Rule)
		}
	}
	actions := make([]int, b.terminals)
	var conflicts []Conflict
	for symbol := range actions {
		var rules []int
		for _, rule := range ended {
			if b.looks[state][rule].has(symbol) {
				rules = append(rules, rule)
			}
		}
		kept, lost := b.settle(rules, symbol, goingTo(b.next[state][symbol]))
		actions[symbol] = kept
		for _, rule := range lost {
			conflicts = append(conflicts, Conflict{State: state, Symbol: symbol, Kept: kept, Lost: byRule(rule)})
		}
	}
	return actions, conflicts
}

// settle: the action that is kept of these rules and of going on, and the rules that are lost. Going on is never lost but where a level says so, and that is no conflict.
func (b *builder) settle(rules []int, symbol, on int) (kept int, lost []int) {
	if len(rules) == 0 {
		return on, nil
	}
	if last := len(rules) - 1; rules[last] == b.first {
		return Accept, rules[:last] // at the end alone, to which no state goes
	}
	least := rules[0]
	if on == failure {
		return byRule(least), rules[1:]
	}
	if b.level[least] == 0 || b.prec[symbol].Level == 0 {
		return on, rules
	}
	return b.prefer(least, symbol, on), rules[1:]
}

// prefer: the rule or going on, by their levels.
func (b *builder) prefer(rule, symbol, on int) int {
	ahead := b.prec[symbol]
	if b.level[rule] > ahead.Level {
		return byRule(rule)
	}
	if b.level[rule] < ahead.Level {
		return on
	}
	switch ahead.Side {
	case Left:
		return byRule(rule)
	case Apart:
		return failure
	}
	return on
}
