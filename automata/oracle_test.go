package automata_test

import (
	"fmt"
	"math/rand"
	"slices"
	"strings"
	"testing"

	"orrery/api"
	"orrery/automata"
)

// shape: a pattern as the tests know it: a set of bytes as it is written, a row, alternatives, or one of the marks behind something.
type shape struct {
	kind  byte // 's', 'r', 'a', '*', '+', '?'
	text  string
	set   [256]bool
	parts []shape
}

// pattern: how it is written. What binds less than what it stands in is put in parentheses.
func (s shape) pattern() string {
	switch s.kind {
	case 's':
		return s.text
	case 'r':
		text := ""
		for _, p := range s.parts {
			text += grouped(p, "a")
		}
		return text
	case 'a':
		var list []string
		for _, p := range s.parts {
			list = append(list, p.pattern())
		}
		return strings.Join(list, "|")
	}
	return grouped(s.parts[0], "ar") + string(s.kind)
}

func grouped(s shape, kinds string) string {
	if strings.IndexByte(kinds, s.kind) >= 0 {
		return "(" + s.pattern() + ")"
	}
	return s.pattern()
}

// ends: at which places texts of the shape end that begin at these places of b.
func (s shape) ends(b string, from []bool) []bool {
	to := make([]bool, len(b)+1)
	switch s.kind {
	case 's':
		for i, is := range from[:len(b)] {
			to[i+1] = is && s.set[b[i]]
		}
	case 'r':
		to = from
		for _, p := range s.parts {
			to = p.ends(b, to)
		}
	case 'a':
		for _, p := range s.parts {
			to = either(to, p.ends(b, from))
		}
	case '?':
		to = either(from, s.parts[0].ends(b, from))
	case '*', '+':
		once := s.parts[0].ends(b, from)
		for to = once; ; {
			more := either(to, s.parts[0].ends(b, to))
			if slices.Equal(more, to) {
				break
			}
			to = more
		}
		if s.kind == '*' {
			to = either(to, from)
		}
	}
	return to
}

func either(a, b []bool) []bool {
	both := slices.Clone(a)
	for i, is := range b {
		both[i] = both[i] || is
	}
	return both
}

// hasText: is b one of its texts?
func (s shape) hasText(b string) bool {
	from := make([]bool, len(b)+1)
	from[0] = true
	return s.ends(b, from)[len(b)]
}

// atoms: sets of bytes as patterns write them, by what the chapter says of each.
func atoms() []shape {
	of := func(text, members string) shape {
		s := shape{kind: 's', text: text}
		for i := range len(members) {
			s.set[members[i]] = true
		}
		return s
	}
	but := func(text, members string) shape {
		s := of(text, members)
		for b := range s.set {
			s.set[b] = !s.set[b]
		}
		return s
	}
	return []shape{
		of("a", "a"), of("b", "b"), of("c", "c"), of("a", "a"), of("b", "b"), of("[ab]", "ab"), of("[a-c]", "abc"), of("[^a-c]", allBut("abc")),
		but(".", "\n"), of(`\n`, "\n"), of(`\x61`, "a"), of(`[\x61b]`, "ab"), but("[^a]", "a"), but(`[^\n]`, "\n"), of(`\.`, "."), of("[.a]", ".a"),
		of(`\d`, "0123456789"), of(`[\db]`, "0123456789b"), of("[^\\x00-\\xff]", ""), of(`[b-b\-]`, "b-"), of("-", "-"), of("\x00", "\x00"), of("\xff", "\xff"),
	}
}

// allBut: all bytes but these.
func allBut(members string) string {
	var list []byte
	for b := range 256 {
		if strings.IndexByte(members, byte(b)) < 0 {
			list = append(list, byte(b))
		}
	}
	return string(list)
}

// someShape: of at most so many levels.
func someShape(r *rand.Rand, atoms []shape, depth int) shape {
	if depth == 0 || r.Intn(4) == 0 {
		return atoms[r.Intn(len(atoms))]
	}
	kind := "rrraa*+?"[r.Intn(8)]
	n := 1
	if kind == 'r' || kind == 'a' {
		n = r.Intn(4)
	}
	if kind == 'a' {
		n++ // an empty row of alternatives could not be written
	}
	s := shape{kind: kind}
	for range n {
		p := someShape(r, atoms, depth-1)
		if kind == 'a' && p.kind == 'a' {
			p = shape{kind: 'r', parts: []shape{p}}
		}
		s.parts = append(s.parts, p)
	}
	return s
}

// net: nodes that lead to one another by nothing, and places, each of which leads from a node to another by the bytes of a set.
type net struct {
	free   [][]int
	places []netPlace
	starts []int
	ends   []int // of each pattern
}

type netPlace struct {
	from, to int
	set      [256]bool
}

func (n *net) node() int {
	n.free = append(n.free, nil)
	return len(n.free) - 1
}

func (n *net) link(from, to int) { n.free[from] = append(n.free[from], to) }

// lay: the shape between two new nodes.
func (n *net) lay(s shape) (from, to int) {
	from, to = n.node(), n.node()
	switch s.kind {
	case 's':
		n.places = append(n.places, netPlace{from, to, s.set})
	case 'r':
		at := from
		for _, p := range s.parts {
			f, t := n.lay(p)
			n.link(at, f)
			at = t
		}
		n.link(at, to)
	case 'a':
		for _, p := range s.parts {
			f, t := n.lay(p)
			n.link(from, f)
			n.link(t, to)
		}
	default:
		f, t := n.lay(s.parts[0])
		n.link(from, f)
		n.link(t, to)
		if s.kind != '+' {
			n.link(from, to)
		}
		if s.kind != '?' {
			n.link(t, f)
		}
	}
	return from, to
}

// reached: the nodes that are come to by nothing.
func (n *net) reached(from []int) []bool {
	seen := make([]bool, len(n.free))
	for todo := slices.Clone(from); len(todo) > 0; todo = todo[1:] {
		if !seen[todo[0]] {
			seen[todo[0]] = true
			todo = append(todo, n.free[todo[0]]...)
		}
	}
	return seen
}

// wantedBuild: the automaton of F12.3, by a net whose nodes stand between the places, byte by byte.
func wantedBuild(shapes []shape) automata.Automaton {
	n := &net{}
	for _, s := range shapes {
		from, to := n.lay(s)
		n.starts, n.ends = append(n.starts, from), append(n.ends, to)
	}
	states := [][]int{nil} // the places of each, but of the start
	number := map[string]int{fmt.Sprint([]int(nil)): -1}
	full := automata.Automaton{Class: make([]int, 256)}
	for b := range full.Class {
		full.Class[b] = b
	}
	for state := 0; state < len(states); state++ {
		nodes := n.starts
		if state > 0 {
			nodes = nil
			for _, p := range states[state] {
				nodes = append(nodes, n.places[p].to)
			}
		}
		seen, row := n.reached(nodes), make([]int, 256)
		for b := range row {
			var next []int
			for p, place := range n.places {
				if seen[place.from] && place.set[b] {
					next = append(next, p)
				}
			}
			to, known := number[fmt.Sprint(next)]
			if !known {
				to = len(states)
				number[fmt.Sprint(next)] = to
				states = append(states, next)
			}
			row[b] = to
		}
		full.Next = append(full.Next, row)
		full.Accept = append(full.Accept, slices.IndexFunc(n.ends, func(end int) bool { return seen[end] }))
	}
	return classed(full)
}

// classed: bytes that go alike from every state as one class, from an automaton of 256.
func classed(full automata.Automaton) automata.Automaton {
	a := automata.Automaton{Class: make([]int, 256), Next: make([][]int, len(full.Next)), Accept: full.Accept}
	var leads []int
	for b := range 256 {
		c := slices.IndexFunc(leads, func(lead int) bool { return alike(full, lead, b) })
		if c < 0 {
			c = len(leads)
			leads = append(leads, b)
			for state, row := range full.Next {
				a.Next[state] = append(a.Next[state], row[full.Class[b]])
			}
		}
		a.Class[b] = c
	}
	return a
}

// alike: do the two bytes go alike from every state?
func alike(a automata.Automaton, b, c int) bool {
	for _, row := range a.Next {
		if row[a.Class[b]] != row[a.Class[c]] {
			return false
		}
	}
	return true
}

// wantNumberedWell: as the chapter's section Words says.
func wantNumberedWell(t *testing.T, what string, a automata.Automaton) {
	t.Helper()
	if !automata.Valid(a) {
		t.Errorf("%s: %v is no automaton", what, a)
		return
	}
	met := 1 // states that were come to: 0 is, at the beginning
	for state := 0; state < met; state++ {
		for b := range 256 {
			to := a.Next[state][a.Class[b]]
			if to > met {
				t.Errorf("%s: state %d is come to ahead of %d", what, to, met)
				return
			}
			if to == met {
				met++
			}
		}
	}
	if met != len(a.Next) {
		t.Errorf("%s: %d of %d states are come to", what, met, len(a.Next))
	}
	classes := 0
	for b := range 256 {
		if a.Class[b] > classes {
			t.Errorf("%s: byte %d has the class %d ahead of %d", what, b, a.Class[b], classes)
		}
		classes = max(classes, a.Class[b]+1)
		for c := range b {
			if alike(a, b, c) != (a.Class[b] == a.Class[c]) {
				t.Errorf("%s: bytes %d and %d have the classes %d and %d", what, c, b, a.Class[c], a.Class[b])
				return
			}
		}
	}
}

func same(a, b automata.Automaton) bool {
	return slices.Equal(a.Class, b.Class) && slices.EqualFunc(a.Next, b.Next, slices.Equal[[]int]) && slices.Equal(a.Accept, b.Accept)
}

func wantSame(t *testing.T, what string, got, want automata.Automaton) {
	t.Helper()
	if !same(got, want) {
		t.Errorf("%s: %v, not %v", what, got, want)
	}
}

// built: the automaton of patterns that are right.
func built(t *testing.T, patterns ...string) automata.Automaton {
	t.Helper()
	a, which, at, e := automata.Build(patterns)
	if which != 0 || at != 0 || e != api.OK {
		t.Fatalf("Build(%q): %d, %d, %v", patterns, which, at, e)
	}
	return a
}

// isZero: nothing is in it.
func isZero(a automata.Automaton) bool { return a.Class == nil && a.Next == nil && a.Accept == nil }

// tagOf: of a text, step by step.
func tagOf(a automata.Automaton, text []byte) int {
	state := 0
	for _, b := range text {
		if state = a.Next[state][a.Class[b]]; state < 0 {
			return -1
		}
	}
	return a.Accept[state]
}

// someAutomaton: of at most so many states, classes and tags.
func someAutomaton(r *rand.Rand, states, classes, tags int) automata.Automaton {
	n, k := 1+r.Intn(states), 1+r.Intn(classes)
	a := automata.Automaton{Class: make([]int, 256)}
	for b := range a.Class {
		a.Class[b] = r.Intn(k)
	}
	for c, b := range r.Perm(256)[:k] { // each class is there
		a.Class[b] = c
	}
	for range n {
		row := make([]int, k)
		for c := range row {
			row[c] = r.Intn(n+1) - 1
		}
		a.Next = append(a.Next, row)
		a.Accept = append(a.Accept, max(r.Intn(2*tags)-tags, -1))
	}
	return a
}

// copied: the same in memory of its own.
func copied(a automata.Automaton) automata.Automaton {
	b := automata.Automaton{Class: slices.Clone(a.Class), Accept: slices.Clone(a.Accept)}
	for _, row := range a.Next {
		b.Next = append(b.Next, slices.Clone(row))
	}
	return b
}

// line: so many states behind one another, of k classes (byte b has the class of b or of the last one), the last one with a tag.
func line(states, k int) automata.Automaton {
	a := automata.Automaton{Class: make([]int, 256)}
	for b := range a.Class {
		a.Class[b] = min(b, k-1)
	}
	for state := range states {
		row := slices.Repeat([]int{-1}, k)
		if state+1 < states {
			row[state%k] = state + 1
		}
		a.Next = append(a.Next, row)
		a.Accept = append(a.Accept, -1)
	}
	a.Accept[states-1] = 0
	return a
}
