package grammar

import "orrery/api"

const wordBits = 64

// set: of symbols, a bit for each.
type set [(api.MaxSymbols + wordBits - 1) / wordBits]uint64

// sets: one for each symbol.
type sets [api.MaxSymbols]set

func (s set) has(symbol int) bool {
	return s[symbol/wordBits]>>(symbol%wordBits)&1 == 1
}

func (s *set) add(symbol int) {
	s[symbol/wordBits] |= 1 << (symbol % wordBits)
}

func (s *set) join(t set) {
	for i, word := range t {
		s[i] |= word
	}
}

// list: its symbols, rising.
func (s set) list() []int {
	var all []int
	for symbol := range api.MaxSymbols {
		if s.has(symbol) {
			all = append(all, symbol)
		}
	}
	return all
}

// upTo: the symbols below a number.
func upTo(count int) set {
	var s set
	for symbol := range count {
		s.add(symbol)
	}
	return s
}

// Nullable: P1304.
func (g *Grammar) Nullable(symbols []int) bool {
	if g == nil {
		return false
	}
	for _, symbol := range symbols {
		if !g.has(symbol) || !g.nothing.has(symbol) {
			return false
		}
	}
	return true
}

// First: P1304.
func (g *Grammar) First(symbols []int) []int {
	for _, symbol := range symbols {
		if !g.has(symbol) {
			return nil
		}
	}
	var all set
	for _, symbol := range symbols {
		all.join(g.begin[symbol])
		if !g.nothing.has(symbol) {
			break
		}
	}
	return all.list()
}

// Follow: P1304.
func (g *Grammar) Follow(symbol int) []int {
	if !g.has(symbol) {
		return nil
	}
	return g.behind[symbol].list()
}

// Useless: P1305.
func (g *Grammar) Useless() []int {
	if g == nil {
		return nil
	}
	ending := g.grown(upTo(g.terminals))
	reached := g.reached(ending)
	var all []int
	for symbol := g.terminals; symbol < len(g.names); symbol++ {
		if !ending.has(symbol) || !reached.has(symbol) {
			all = append(all, symbol)
		}
	}
	return all
}

// grown: the set, and each symbol that can become symbols of it alone, or nothing.
func (g *Grammar) grown(s set) set {
growing:
	for {
		before := s
	rules:
		for _, r := range g.rules {
			for _, symbol := range r.Right {
				if !s.has(symbol) {
					continue rules
				}
			}
			s.add(r.Left)
		}
		if s == before {
			break growing
		}
	}
	return s
}

// reached: the start, and what it comes to by rules whose right symbols are all of the set.
func (g *Grammar) reached(within set) set {
	var s set
	s.add(g.start)
growing:
	for {
		before := s
	rules:
		for _, r := range g.rules {
			if !s.has(r.Left) {
				continue rules
			}
			var right set
			for _, symbol := range r.Right {
				if !within.has(symbol) {
					continue rules
				}
				right.add(symbol)
			}
			s.join(right)
		}
		if s == before {
			break growing
		}
	}
	return s
}

// beginnings: for each symbol the terminals with which what it becomes can begin.
func (g *Grammar) beginnings() sets {
	var begin sets
	for symbol := range g.terminals {
		begin[symbol].add(symbol)
	}
growing:
	for {
		before := begin
	rules:
		for _, r := range g.rules {
			for _, symbol := range r.Right {
				begin[r.Left].join(begin[symbol])
				if !g.nothing.has(symbol) {
					continue rules
				}
			}
		}
		if begin == before {
			break growing
		}
	}
	return begin
}

// followers: for each nonterminal the terminals that can stand right behind it; rules that the start does not come to tell nothing of that.
func (g *Grammar) followers() sets {
	reached := g.reached(upTo(len(g.names)))
	var behind sets
	behind[g.start].add(g.terminals - 1)
growing:
	for {
		before := behind
		for _, r := range g.rules {
			if !reached.has(r.Left) {
				continue
			}
			next := behind[r.Left]
			for i := len(r.Right) - 1; i >= 0; i-- {
				symbol := r.Right[i]
				if symbol >= g.terminals {
					behind[symbol].join(next)
				}
				if !g.nothing.has(symbol) {
					next = set{}
				}
				next.join(g.begin[symbol])
			}
		}
		if behind == before {
			break growing
		}
	}
	return behind
}
