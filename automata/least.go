package automata

import "orrery/api"

// column: what all states go to by one byte.
type column [api.MaxStates]int16

// outlook: the block of a state, and behind it those that it goes to by the classes.
type outlook [1 + byteCount]int16

// classesOf: the bytes of one kind are one class; they are numbered by the least byte of each, and told by these bytes.
func classesOf[K comparable](kind func(b byte) K) (class []int, leads []byte) {
	class = make([]int, byteCount)
	number := map[K]int{}
	for i := range class {
		k := kind(byte(i))
		c, known := number[k]
		if !known {
			c = len(leads)
			number[k] = c
			leads = append(leads, byte(i))
		}
		class[i] = c
	}
	return class, leads
}

// leadsOf: the least byte of each class, rising.
func leadsOf(a Automaton) []byte {
	_, leads := classesOf(func(b byte) int { return a.Class[b] })
	return leads
}

// numbered: the same automaton, numbered well.
func numbered(a Automaton) Automaton {
	order, places := walked(a)
	class, leads := classesOf(func(b byte) column {
		var goes column
		for i, state := range order {
			goes[i] = int16(placed(places, a.goes(state, b)))
		}
		return goes
	})
	made := Automaton{Class: class, Next: make([][]int, len(order)), Accept: make([]int, len(order))}
	for i, state := range order {
		made.Accept[i] = a.Accept[state]
		made.Next[i] = make([]int, len(leads))
		for c, b := range leads {
			made.Next[i][c] = placed(places, a.goes(state, b))
		}
	}
	return made
}

// walked: the states in the order in which they are first come to, and the place of each in it.
func walked(a Automaton) (order, places []int) {
	leads := leadsOf(a)
	places = make([]int, len(a.Next))
	for state := range places {
		places[state] = nowhere
	}
	order, places[0] = []int{0}, 0
	for at := 0; at < len(order); at++ {
		for _, b := range leads {
			to := a.goes(order[at], b)
			if to != nowhere && places[to] == nowhere {
				places[to] = len(order)
				order = append(order, to)
			}
		}
	}
	return order, places
}

// placed: what stands for a state, or for nowhere.
func placed(places []int, state int) int {
	if state == nowhere {
		return nowhere
	}
	return places[state]
}

// Least: F12.5.
func Least(a Automaton) (Automaton, api.Errno) {
	if !Valid(a) {
		return Automaton{}, api.ErrArg
	}
	blocks := blocksOf(a)
	if blocks[0] == nowhere {
		return empty(), api.OK
	}
	return numbered(merged(a, blocks)), api.OK
}

// empty: the least automaton without a text.
func empty() Automaton {
	return Automaton{Class: make([]int, byteCount), Next: [][]int{{nowhere}}, Accept: []int{noTag}}
}

// merged: each block as one state, by what the first one in it does. The start is in the first block.
func merged(a Automaton, blocks []int) Automaton {
	made := Automaton{Class: a.Class}
	for state, block := range blocks {
		if block != len(made.Next) {
			continue
		}
		row := make([]int, len(a.Next[state]))
		for c, to := range a.Next[state] {
			row[c] = placed(blocks, to)
		}
		made.Next = append(made.Next, row)
		made.Accept = append(made.Accept, a.Accept[state])
	}
	return made
}

// blocksOf: states from which the same texts have the same tags share a block; those from which none has one are nowhere. Blocks by tags alone are split until what their states go to splits none any more.
func blocksOf(a Automaton) []int {
	alive := aliveOf(a)
	blocks, count := grouped(alive, func(state int) int { return a.Accept[state] })
	for {
		split, more := grouped(alive, func(state int) outlook {
			sight := outlook{int16(blocks[state])}
			for c, to := range a.Next[state] {
				sight[1+c] = int16(placed(blocks, to))
			}
			return sight
		})
		if more == count {
			return blocks
		}
		blocks, count = split, more
	}
}

// grouped: the states that are alive by what tells them apart, numbered as they are met; and how many groups there are.
func grouped[K comparable](alive []bool, kind func(state int) K) (groups []int, count int) {
	groups = make([]int, len(alive))
	number := map[K]int{}
	for state, is := range alive {
		if !is {
			groups[state] = nowhere
			continue
		}
		k := kind(state)
		group, known := number[k]
		if !known {
			group = len(number)
			number[k] = group
		}
		groups[state] = group
	}
	return groups, len(number)
}

// aliveOf: can a state with a tag be come to from each of them?
func aliveOf(a Automaton) []bool {
	alive := make([]bool, len(a.Next))
	for grown := true; grown; {
		grown = false
		for state := range alive {
			if !alive[state] && (a.Accept[state] != noTag || leadsTo(a.Next[state], alive)) {
				alive[state], grown = true, true
			}
		}
	}
	return alive
}

func leadsTo(row []int, those []bool) bool {
	for _, to := range row {
		if to != nowhere && those[to] {
			return true
		}
	}
	return false
}
