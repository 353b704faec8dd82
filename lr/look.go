package lr

import (
	"slices"

	"orrery/api"
	"orrery/grammar"
)

const wordBits = 64

// set: of terminals, a bit for each.
type set [(api.MaxSymbols + wordBits - 1) / wordBits]uint64

func (s set) has(terminal int) bool {
	return s[terminal/wordBits]>>(terminal%wordBits)&1 == 1
}

// with: and this terminal, too.
func (s set) with(terminal int) set {
	s[terminal/wordBits] |= 1 << (terminal % wordBits)
	return s
}

// or: the terminals of both.
func (s set) or(other set) set {
	for i, word := range other {
		s[i] |= word
	}
	return s
}

// list: its terminals, rising.
func (s set) list() []int {
	var all []int
	for terminal := range api.MaxSymbols {
		if s.has(terminal) {
			all = append(all, terminal)
		}
	}
	return all
}

func setOf(terminals []int) set {
	var s set
	for _, terminal := range terminals {
		s = s.with(terminal)
	}
	return s
}

// Look: F14.1.
func Look(g *grammar.Grammar, kind, state, rule int) ([]int, api.Errno) {
	p, e := planOf(g)
	if e != api.OK {
		return nil, e
	}
	if !isKind(kind) || !p.hasEnd(state, rule) {
		return nil, api.ErrArg
	}
	return p.lookaheads(kind)[state][rule].list(), api.OK
}

func isKind(kind int) bool {
	return kind == SLR || kind == LALR
}

// hasEnd: is there such a state, with the item of such a rule with its point at its end?
func (p *plan) hasEnd(state, rule int) bool {
	if state < 0 || state >= len(p.states) || rule < 0 || rule >= len(p.rules) {
		return false
	}
	return slices.Contains(p.states[state], Item{Rule: rule, Dot: len(p.rules[rule].Right)})
}

// lookaheads: for each state, for each rule, the lookahead of its item with the point at its end, if the state has that.
func (p *plan) lookaheads(kind int) [][]set {
	if kind == SLR {
		return p.looksByFollow()
	}
	return p.looksByStates()
}

func (p *plan) looksByFollow() [][]set {
	follow := make([]set, len(p.rules))
	for n, r := range p.rules[:p.first] {
		follow[n] = setOf(p.g.Follow(r.Left))
	}
	follow[p.first] = p.endAlone()
	ends := make([][]set, len(p.states))
	for state, items := range p.states {
		ends[state] = make([]set, len(p.rules))
		for _, item := range items {
			if p.isEnd(item) {
				ends[state][item.Rule] = follow[item.Rule]
			}
		}
	}
	return ends
}

func (p *plan) endAlone() set {
	return set{}.with(p.terminals - 1)
}
