package automata

import (
	"slices"

	"orrery/api"
)

// Some: F12.6.
func Some(a Automaton, tag int) ([]byte, bool) {
	if !Valid(a) || tag < 0 {
		return nil, false
	}
	w := walk{
		nodes: len(a.Next),
		leads: leadsOf(a),
		goes:  a.goes,
		found: func(state int) bool { return a.Accept[state] == tag },
	}
	return w.shortest()
}

// Differ: F12.5.
func Differ(a, b Automaton) (witness []byte, differ bool, e api.Errno) {
	if !Valid(a) || !Valid(b) {
		return nil, false, api.ErrArg
	}
	width := len(b.Next) + 1 // nowhere is one of a pair, too
	join := func(one, other int) int { return (one-nowhere)*width + other - nowhere }
	part := func(pair int) (one, other int) { return pair/width + nowhere, pair%width + nowhere }
	_, leads := classesOf(func(c byte) [2]int { return [2]int{a.Class[c], b.Class[c]} })
	w := walk{
		nodes: (len(a.Next) + 1) * width,
		start: join(0, 0),
		leads: leads,
		goes: func(pair int, c byte) int {
			one, other := part(pair)
			return join(a.goes(one, c), b.goes(other, c))
		},
		found: func(pair int) bool {
			one, other := part(pair)
			return a.tag(one) != b.tag(other)
		},
	}
	witness, differ = w.shortest()
	return witness, differ, api.OK
}

// walk: over states, or pairs of states, by the least byte of each class.
type walk struct {
	nodes, start int
	leads        []byte // rising
	goes         func(node int, b byte) int
	found        func(node int) bool
}

// shortest: the text by which a node that is looked for is come to. As the nodes wait in the order of the least texts by which they are come to, the first one that is found is that of the shortest and least.
func (w walk) shortest() ([]byte, bool) {
	from, by := make([]int, w.nodes), make([]byte, w.nodes)
	for node := range from {
		from[node] = nowhere
	}
	from[w.start] = w.start
	waiting := []int{w.start}
	for at := 0; at < len(waiting); at++ {
		node := waiting[at]
		if w.found(node) {
			return w.textTo(node, from, by), true
		}
		for _, b := range w.leads {
			to := w.goes(node, b)
			if to != nowhere && from[to] == nowhere {
				from[to], by[to] = node, b
				waiting = append(waiting, to)
			}
		}
	}
	return nil, false
}

// textTo: the bytes by which a node was come to.
func (w walk) textTo(node int, from []int, by []byte) []byte {
	var text []byte
	for ; node != w.start; node = from[node] {
		text = append(text, by[node])
	}
	slices.Reverse(text)
	return text
}
