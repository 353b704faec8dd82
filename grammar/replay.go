package grammar

import (
	"slices"

	"orrery/api"
)

// Replay: P1307.
func (g *Grammar) Replay(rules []int) ([]int, api.Errno) {
	if g == nil {
		return nil, api.ErrNil
	}
	if err := g.tryRules(rules); err != api.OK {
		return nil, err
	}
	return g.derived(rules), api.OK
}

// tryRules goes by the nonterminals alone, since a rule that does not fit is told ahead of what is too long, even behind it.
func (g *Grammar) tryRules(rules []int) api.Errno {
	inner := g.innerSymbols()
	waiting := [][]int{{g.start}} // lists of nonterminals, none of them empty; the last of the last one is the next to go
	size, big := 1, false
	for _, n := range rules {
		if n < 0 || n >= len(g.rules) || len(waiting) == 0 {
			return api.ErrArg
		}
		top := len(waiting) - 1
		last := len(waiting[top]) - 1
		if waiting[top][last] != g.rules[n].Left {
			return api.ErrArg
		}
		rest := waiting[top][:last]
		waiting = pushFilled(pushFilled(waiting[:top], rest), inner[n])
		size += len(g.rules[n].Right) - 1
		big = big || size > api.MaxText
	}
	if big {
		return api.ErrBig
	}
	return api.OK
}

// innerSymbols: for each rule the nonterminals of its right side, in order.
func (g *Grammar) innerSymbols() [][]int {
	inner := make([][]int, len(g.rules))
	for n, r := range g.rules {
		for _, symbol := range r.Right {
			if symbol >= g.terminals {
				inner[n] = append(inner[n], symbol)
			}
		}
	}
	return inner
}

func pushFilled(lists [][]int, list []int) [][]int {
	if len(list) == 0 {
		return lists
	}
	return append(lists, list)
}

// derived: what comes of the start by rules that fit; the terminals behind the last nonterminal stand apart, last one first, so that a long end is not moved for each rule.
func (g *Grammar) derived(rules []int) []int {
	front := []int{g.start}
	var back []int
	for _, n := range rules {
		front = append(front[:len(front)-1], g.rules[n].Right...)
		for len(front) > 0 && front[len(front)-1] < g.terminals {
			back = append(back, front[len(front)-1])
			front = front[:len(front)-1]
		}
	}
	slices.Reverse(back)
	return slices.Concat(front, back)
}
