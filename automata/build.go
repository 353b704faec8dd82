package automata

import "orrery/api"

const wordBits = 64

// placeSet: a bit for each place.
type placeSet [api.MaxPlaces / wordBits]uint64

func (s placeSet) has(place int) bool { return s[place/wordBits]>>(place%wordBits)&1 == 1 }

// with: and this place, too.
func (s placeSet) with(place int) placeSet {
	s[place/wordBits] |= 1 << (place % wordBits)
	return s
}

// or: the places of both.
func (s placeSet) or(other placeSet) placeSet {
	for i, word := range other {
		s[i] |= word
	}
	return s
}

// and: the places that both have.
func (s placeSet) and(other placeSet) placeSet {
	for i, word := range other {
		s[i] &= word
	}
	return s
}

// plan: the places of all patterns, and how texts go from one to another.
type plan struct {
	owner  []int               // of each place its pattern
	behind []placeSet          // of each place those that can come right behind it
	has    [byteCount]placeSet // of each byte those that have it
	first  placeSet
	last   placeSet
	empty  int // the tag of the empty text
}

// Build: F12.3.
func Build(patterns []string) (a Automaton, which, at int, e api.Errno) {
	if len(patterns) > api.MaxPatterns {
		return Automaton{}, 0, 0, api.ErrBig
	}
	p := &plan{empty: noTag}
	for number, pattern := range patterns {
		t, place, fault := read(pattern, len(p.owner))
		if fault != api.OK {
			return Automaton{}, number, place, fault
		}
		if len(p.owner)+len(t.places) > api.MaxPlaces {
			return Automaton{}, number, 0, api.ErrBig
		}
		p.lay(t, number)
	}
	a, e = p.automaton()
	return a, 0, 0, e
}

// lay: the next pattern behind those that are there.
func (p *plan) lay(t tree, number int) {
	for _, set := range t.places {
		for b, in := range set {
			if in {
				p.has[b] = p.has[b].with(len(p.owner))
			}
		}
		p.owner = append(p.owner, number)
		p.behind = append(p.behind, placeSet{})
	}
	whole := p.either(t.alternatives)
	p.first = p.first.or(whole.first)
	p.last = p.last.or(whole.last)
	if whole.empty && p.empty == noTag {
		p.empty = number
	}
}

// part: of some part of a pattern whether it can be nothing, and which places can be its first and its last ones.
type part struct {
	empty       bool
	first, last placeSet
}

func (p *plan) either(alternatives [][]piece) part {
	var all part
	for _, row := range alternatives {
		one := p.inOrder(row)
		all.empty = all.empty || one.empty
		all.first = all.first.or(one.first)
		all.last = all.last.or(one.last)
	}
	return all
}

func (p *plan) inOrder(row []piece) part {
	all := part{empty: true}
	for _, x := range row {
		next := p.of(x)
		p.lead(all.last, next.first)
		if all.empty {
			all.first = all.first.or(next.first)
		}
		if next.empty {
			all.last = all.last.or(next.last)
		} else {
			all.last = next.last
		}
		all.empty = all.empty && next.empty
	}
	return all
}

func (p *plan) of(x piece) part {
	var one part
	if len(x.inner) > 0 {
		one = p.either(x.inner)
	} else {
		one.first = one.first.with(x.place)
		one.last = one.first
	}
	if x.repeated {
		p.lead(one.last, one.first)
	}
	one.empty = one.empty || x.optional
	return one
}

// lead: from each of the one set each of the other can be come to.
func (p *plan) lead(from, to placeSet) {
	for place := range p.behind {
		if from.has(place) {
			p.behind[place] = p.behind[place].or(to)
		}
	}
}

// automaton: its states are sets of places, the start ahead of them, which is none.
func (p *plan) automaton() (Automaton, api.Errno) {
	class, leads := classesOf(func(b byte) placeSet { return p.has[b] })
	a := Automaton{Class: class, Accept: []int{p.empty}}
	states := []placeSet{{}}
	number := map[placeSet]int{{}: nowhere}
	full := false
waiting:
	for state := 0; state < len(states); state++ {
		ways := p.ways(states[state], state == 0)
		row := make([]int, len(leads))
		for c, b := range leads {
			next := ways.and(p.has[b])
			to, known := number[next]
			if !known && len(states) == api.MaxStates {
				full = true
				break waiting
			}
			if !known {
				to = len(states)
				number[next] = to
				states = append(states, next)
				a.Accept = append(a.Accept, p.tag(next))
			}
			row[c] = to
		}
		a.Next = append(a.Next, row)
	}
	if full {
		return Automaton{}, api.ErrStates
	}
	return numbered(a), api.OK
}

// ways: the places that can come next.
func (p *plan) ways(state placeSet, isStart bool) placeSet {
	if isStart {
		return p.first
	}
	var all placeSet
	for place, behind := range p.behind {
		if state.has(place) {
			all = all.or(behind)
		}
	}
	return all
}

// tag: that of the first place which can be a last one, since places stand in the order of their patterns.
func (p *plan) tag(state placeSet) int {
	ends := state.and(p.last)
	for place, pattern := range p.owner {
		if ends.has(place) {
			return pattern
		}
	}
	return noTag
}
