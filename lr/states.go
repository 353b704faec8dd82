package lr

import (
	"strconv"

	"orrery/api"
	"orrery/grammar"
)

// plan: the rules of a grammar with the first rule of all behind them, and the states that are come to by them.
type plan struct {
	g         *grammar.Grammar
	terminals int // how many, with the end
	above     int // what the first rule of all makes of the start: a number behind all symbols
	first     int // the number of that rule
	rules     []grammar.Rule
	of        [][]int // for each left side its rules
	states    [][]Item
	next      [][]int // for each state, for each symbol, the state that it goes to, or nowhere
}

// States: F14.1.
func States(g *grammar.Grammar) ([][]Item, api.Errno) {
	p, e := planOf(g)
	if e != api.OK {
		return nil, e
	}
	return p.states, api.OK
}

// planOf: ErrNil, if there is no grammar; ErrBig, if it has too many states.
func planOf(g *grammar.Grammar) (*plan, api.Errno) {
	if g == nil || g.Terminals() == 0 { // even the end lacks in one that was never made
		return nil, api.ErrNil
	}
	rules := g.Rules()
	p := &plan{g: g, terminals: g.Terminals(), above: g.Symbols(), first: len(rules)}
	p.rules = append(rules, grammar.Rule{Left: p.above, Right: []int{g.Start()}})
	p.of = make([][]int, p.above+1)
	for n, r := range p.rules {
		p.of[r.Left] = append(p.of[r.Left], n)
	}
	if !p.findStates() {
		return nil, api.ErrBig
	}
	return p, api.OK
}

// findStates: a state stands for its kernel, by which it is found again; false, if there are too many.
func (p *plan) findStates() bool {
	kernel := []Item{{Rule: p.first}}
	number := map[string]int{keyOf(kernel): 0}
	p.states = [][]Item{p.closure(kernel)}
	for state := 0; state < len(p.states); state++ {
		row := make([]int, p.above)
		for symbol, kernel := range p.kernelsBehind(p.states[state]) {
			if len(kernel) == 0 {
				row[symbol] = nowhere
				continue
			}
			key := keyOf(kernel)
			to, known := number[key]
			if !known && len(p.states) == api.MaxItems {
				return false
			}
			if !known {
				to = len(p.states)
				number[key] = to
				p.states = append(p.states, p.closure(kernel))
			}
			row[symbol] = to
		}
		p.next = append(p.next, row)
	}
	return true
}

// keyOf: a text that no other kernel has.
func keyOf(kernel []Item) string {
	var text []byte
	for _, item := range kernel {
		text = strconv.AppendInt(text, int64(item.Rule), 10)
		text = append(text, '.')
		text = strconv.AppendInt(text, int64(item.Dot), 10)
		text = append(text, ' ')
	}
	return string(text)
}

// kernelsBehind: for each symbol the items that have their point ahead of it, with the point behind it; they stay in order.
func (p *plan) kernelsBehind(items []Item) [][]Item {
	kernels := make([][]Item, p.above)
	for _, item := range items {
		if p.isEnd(item) {
			continue
		}
		symbol := p.rules[item.Rule].Right[item.Dot]
		kernels[symbol] = append(kernels[symbol], Item{Rule: item.Rule, Dot: item.Dot + 1})
	}
	return kernels
}

// isEnd: does its point stand at its end?
func (p *plan) isEnd(item Item) bool {
	return item.Dot == len(p.rules[item.Rule].Right)
}

// closure: in order of rules, then of points, since a kernel comes in that order, and what it lacks stands ahead of all else of its rule.
func (p *plan) closure(kernel []Item) []Item {
	ahead := p.aheadOf(kernel)
	items := make([]Item, 0, len(kernel)+len(p.rules))
	for n, r := range p.rules {
		if ahead[r.Left] {
			items = append(items, Item{Rule: n})
		}
		for len(kernel) > 0 && kernel[0].Rule == n {
			items = append(items, kernel[0])
			kernel = kernel[1:]
		}
	}
	return items
}

// aheadOf: for each left side whether the closure of a kernel has a point ahead of it.
func (p *plan) aheadOf(kernel []Item) []bool {
	ahead := make([]bool, p.above+1)
	var waiting []int
	meet := func(item Item) {
		if p.isEnd(item) {
			return
		}
		symbol := p.rules[item.Rule].Right[item.Dot]
		if symbol >= p.terminals && !ahead[symbol] {
			ahead[symbol] = true
			waiting = append(waiting, symbol)
		}
	}
	for _, item := range kernel {
		meet(item)
	}
	for i := 0; i < len(waiting); i++ {
		for _, rule := range p.of[waiting[i]] {
			meet(Item{Rule: rule})
		}
	}
	return ahead
}
