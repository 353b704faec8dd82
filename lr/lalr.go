package lr

// rest: what stands behind a symbol of a right side.
type rest struct {
	first set
	empty bool // it can become nothing
}

// spread: how LALR's sets come of one another. All items of a state that have their point ahead, of rules of one left side, have the same set: it is kept once, and followed along each of the rules to its end.
type spread struct {
	*plan
	rests  [][]rest // for each rule that is gone along, for each symbol
	behind [][]set  // for each state, for each left side that it has a point ahead of, that set
	fresh  [][]bool // whether it has grown since it was followed, or was never followed
	ends   [][]set  // for each state, for each rule, what has come to its end
}

func (p *plan) looksByStates() [][]set {
	s := p.newSpread()
	for s.followAll() {
	}
	return s.ends
}

func (p *plan) newSpread() *spread {
	s := &spread{plan: p, rests: make([][]rest, len(p.rules))}
	for _, items := range p.states {
		fresh := make([]bool, p.above+1)
		for _, item := range items {
			if item.Dot == 0 {
				fresh[p.rules[item.Rule].Left] = true
			}
		}
		s.fresh = append(s.fresh, fresh)
		s.behind = append(s.behind, make([]set, p.above+1))
		s.ends = append(s.ends, make([]set, len(p.rules)))
	}
	s.behind[0][p.above] = p.endAlone()
	return s
}

// followAll: every set that is fresh; false, if there was none.
func (s *spread) followAll() bool {
	some := false
	for state, row := range s.fresh {
		for left, fresh := range row {
			if !fresh {
				continue
			}
			some = true
			row[left] = false
			for _, rule := range s.of[left] {
				s.follow(state, rule)
			}
		}
	}
	return some
}

// follow: the set of a rule's left side in a state, along the rule.
func (s *spread) follow(state, rule int) {
	if s.rests[rule] == nil {
		s.rests[rule] = s.restsOf(rule)
	}
	look := s.behind[state][s.rules[rule].Left]
	at := state
	for i, symbol := range s.rules[rule].Right {
		if symbol >= s.terminals {
			more := s.rests[rule][i].first
			if s.rests[rule][i].empty {
				more = more.or(look)
			}
			s.add(at, symbol, more)
		}
		at = s.next[at][symbol]
	}
	s.ends[at][rule] = s.ends[at][rule].or(look)
}

func (s *spread) add(state, left int, more set) {
	whole := s.behind[state][left].or(more)
	if whole != s.behind[state][left] {
		s.behind[state][left] = whole
		s.fresh[state][left] = true
	}
}

// restsOf goes backwards, so that a long rule is gone through but once.
func (p *plan) restsOf(rule int) []rest {
	right := p.rules[rule].Right
	rests := make([]rest, len(right))
	behind := rest{empty: true}
	for i := len(right) - 1; i >= 0; i-- {
		rests[i] = behind
		one := right[i : i+1]
		if !p.g.Nullable(one) {
			behind = rest{}
		}
		behind.first = behind.first.or(setOf(p.g.First(one)))
	}
	return rests
}
