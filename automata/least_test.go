package automata_test

import (
	"bytes"
	"math"
	"math/rand"
	"slices"
	"strings"
	"testing"

	"orrery/api"
	"orrery/automata"
)

func least(t *testing.T, a automata.Automaton) automata.Automaton {
	t.Helper()
	b, e := automata.Least(a)
	if e != api.OK {
		t.Fatalf("Least(%v): %v", a, e)
	}
	return b
}

// unlike: which states (the one behind the last is -1) are told apart by some text, byte by byte.
func unlike(a automata.Automaton) [][]bool {
	n := len(a.Next)
	goes := func(state, b int) int {
		if state == n || a.Next[state][a.Class[b]] < 0 {
			return n
		}
		return a.Next[state][a.Class[b]]
	}
	tags := append(slices.Clone(a.Accept), -1)
	table := make([][]bool, n+1)
	for p := range table {
		table[p] = make([]bool, n+1)
		for q := range table[p] {
			table[p][q] = tags[p] != tags[q]
		}
	}
	for changed := true; changed; {
		changed = false
		for p := range table {
			for q := range table {
				for b := 0; b < 256 && !table[p][q]; b++ {
					if table[goes(p, b)][goes(q, b)] {
						table[p][q], changed = true, true
					}
				}
			}
		}
	}
	return table
}

// wantedLeast: F12.5, of the table of states that are told apart.
func wantedLeast(a automata.Automaton) automata.Automaton {
	table, dead := unlike(a), len(a.Next)
	order := []int{0} // one state for all that are like it
	full := automata.Automaton{Class: make([]int, 256)}
	for at := 0; at < len(order); at++ {
		row := make([]int, 256)
		for b := range row {
			full.Class[b] = b
			row[b] = -1
			to := a.Next[order[at]][a.Class[b]]
			if to < 0 || !table[to][dead] {
				continue
			}
			row[b] = slices.IndexFunc(order, func(state int) bool { return !table[state][to] })
			if row[b] < 0 {
				row[b] = len(order)
				order = append(order, to)
			}
		}
		full.Next = append(full.Next, row)
		full.Accept = append(full.Accept, a.Accept[order[at]])
	}
	return classed(full)
}

// disguised: another automaton with the same texts: with states that stand twice, that nobody comes to, or that come to no tag, with other numbers of states and classes, and with classes split.
func disguised(r *rand.Rand, a automata.Automaton) automata.Automaton {
	b := copied(a)
	for range r.Intn(3) { // a state twice
		b.Next = append(b.Next, slices.Clone(b.Next[r.Intn(len(b.Next))]))
		b.Accept = append(b.Accept, 0)
		twin := len(b.Next) - 1
		old := r.Intn(twin)
		b.Next[twin], b.Accept[twin] = slices.Clone(b.Next[old]), b.Accept[old]
		for _, row := range b.Next {
			for c, to := range row {
				if to == old && r.Intn(2) == 0 {
					row[c] = twin
				}
			}
		}
	}
	if r.Intn(2) == 0 { // one that comes to no tag, in place of nowhere
		b.Next, b.Accept = append(b.Next, slices.Repeat([]int{-1}, len(b.Next[0]))), append(b.Accept, -1)
		dead := len(b.Next) - 1
		for _, row := range b.Next {
			for c, to := range row {
				if to < 0 && r.Intn(2) == 0 {
					row[c] = dead
				}
			}
		}
	}
	if r.Intn(2) == 0 { // one that nobody comes to
		row := make([]int, len(b.Next[0]))
		for c := range row {
			row[c] = r.Intn(len(b.Next)+1) - 1
		}
		b.Next, b.Accept = append(b.Next, row), append(b.Accept, r.Intn(3))
	}
	if b = renumbered(r, b); r.Intn(2) == 0 {
		b = split(r, b)
	}
	return b
}

// renumbered: the states but 0, and the classes, in any order.
func renumbered(r *rand.Rand, a automata.Automaton) automata.Automaton {
	b := copied(a)
	states, classes := r.Perm(len(a.Next)-1), r.Perm(len(a.Next[0]))
	number := func(state int) int {
		if state <= 0 {
			return state
		}
		return states[state-1] + 1
	}
	for i, c := range a.Class {
		b.Class[i] = classes[c]
	}
	for state, row := range a.Next {
		b.Accept[number(state)] = a.Accept[state]
		for c, to := range row {
			b.Next[number(state)][classes[c]] = number(to)
		}
	}
	return b
}

// split: one class as two that go alike, if it has two bytes.
func split(r *rand.Rand, a automata.Automaton) automata.Automaton {
	b := copied(a)
	old := b.Class[r.Intn(256)]
	var those []int
	for i, c := range b.Class {
		if c == old {
			those = append(those, i)
		}
	}
	if len(those) < 2 {
		return b
	}
	for _, i := range those[:1+r.Intn(len(those)-1)] {
		b.Class[i] = len(b.Next[0])
	}
	for state, row := range b.Next {
		b.Next[state] = append(row, row[old])
	}
	return b
}

// F12.5, P1204: automata by chance: the least one, the same of all that have the same texts, and its own.
func TestLeast(t *testing.T) {
	r := rand.New(rand.NewSource(8))
	fewer, dead := 0, 0
	for range 600 {
		a := someAutomaton(r, 7, 3, 2)
		got := least(t, a)
		wantSame(t, "Least", got, wantedLeast(a))
		wantNumberedWell(t, "Least", got)
		wantSame(t, "Least of it", least(t, got), got)
		if len(got.Next) < len(a.Next) {
			fewer++
		}
		if slices.Max(got.Accept) < 0 {
			dead++
		}
		for range 4 {
			b := disguised(r, a)
			if w, differ, e := automata.Differ(a, b); differ || e != api.OK {
				t.Fatalf("the test's own fault: %v and %v differ in %v, %v", a, b, w, e)
			}
			wantSame(t, "Least of another one", least(t, b), got)
		}
		for range 20 {
			text := make([]byte, r.Intn(8))
			r.Read(text)
			if tagOf(a, text) != tagOf(got, text) {
				t.Errorf("Least(%v) has %v with %d, not %d", a, text, tagOf(got, text), tagOf(a, text))
			}
		}
	}
	if fewer < 100 || dead < 10 {
		t.Errorf("%d automata had fewer states, %d no text: that tells little", fewer, dead)
	}
}

// F12.5, P1204: of patterns.
func TestLeastOfPatterns(t *testing.T) {
	r := rand.New(rand.NewSource(9))
	all := atoms()
	for range 150 {
		var patterns []string
		for range 1 + r.Intn(3) {
			if p := someShape(r, all, r.Intn(4)).pattern(); len(p) < 60 {
				patterns = append(patterns, p)
			}
		}
		a := built(t, patterns...)
		got := least(t, a)
		wantSame(t, strings.Join(patterns, " , "), got, wantedLeast(a))
		wantNumberedWell(t, strings.Join(patterns, " , "), got)
	}
	for _, z := range []struct {
		one, other string
		states     int
	}{
		{"(a|b)*abb", "[ab]*a(bb)", 4}, {"a*", "(a*)*", 1}, {"a*", "|a+", 1}, {"a+", "aa*", 2}, {"(a|b)*", "(a*b*)*", 1}, {"ab|ac", "a(b|c)", 3}, {"a|b|c", "[a-c]", 2},
		{"a?", "|a", 2}, {"(ab)*a", "a(ba)*", 2}, {"", "()*", 1}, {".", "[^\\n]", 2}, {"\\d", "[0-9]", 2}, {"[\\x00-\\xff]*", "(.|\\n)*", 1}, {"a[^\\x00-\\xff]", "[^\\x00-\\xff]*[^\\x00-\\xff]", 1}, {"(aa)*|(aaa)*", "(aaa)*|(aa)*", 6},
	} {
		one, other := least(t, built(t, z.one)), least(t, built(t, z.other))
		wantSame(t, z.one+" and "+z.other, one, other)
		if len(one.Next) != z.states {
			t.Errorf("Least of %s has %d states, not %d", z.one, len(one.Next), z.states)
		}
	}
}

// P1204: of all automata of two classes and at most three states, held against all texts that could tell them apart.
func TestNoAutomatonHasFewerStates(t *testing.T) {
	type known struct {
		least  automata.Automaton
		states int // of the smallest one there is
	}
	var all []string
	for n := range 6 { // two of three states are told apart by a text of five bytes at most
		texts("ab", n, func(text string) { all = append(all, text) })
	}
	class := make([]int, 256)
	class['a'] = 1
	found := map[uint64]known{}
	for states := 1; states <= 3; states++ {
		rows := (states + 1) * (states + 1)
		count := 1
		for range states {
			count *= rows * 2
		}
		stride := 1
		if states == 3 {
			stride = 5 // one in five is enough
		}
		for code := 0; code < count; code += stride {
			a := automata.Automaton{Class: class}
			for rest := code; len(a.Next) < states; rest /= rows * 2 {
				row := rest / 2 % rows
				a.Next = append(a.Next, []int{row%(states+1) - 1, row/(states+1) - 1})
				a.Accept = append(a.Accept, rest%2-1)
			}
			has := uint64(0)
			for i, text := range all {
				if tagOf(a, []byte(text)) >= 0 {
					has |= 1 << i
				}
			}
			got := least(t, a)
			k, there := found[has]
			if !there {
				k = known{got, states}
				found[has] = k
			}
			if !same(got, k.least) || len(got.Next) != k.states {
				t.Errorf("Least(%v): %v; another one of the same texts: %v; the smallest one has %d states", a, got, k.least, k.states)
			}
		}
	}
	if len(found) < 500 {
		t.Errorf("%d kinds of texts: that tells little", len(found))
	}
}

// F12.5: states from which no tag is come to are -1, but the state 0.
func TestLeastOfDeadStates(t *testing.T) {
	none := automata.Automaton{Class: make([]int, 256), Next: [][]int{{-1}}, Accept: []int{-1}}
	class := make([]int, 256)
	class['a'] = 1
	for _, a := range []automata.Automaton{
		none,
		{Class: class, Next: [][]int{{0, 0}}, Accept: []int{-1}},
		{Class: class, Next: [][]int{{1, 0}, {1, 1}}, Accept: []int{-1, -1}},
		{Class: class, Next: [][]int{{1, -1}, {0, 1}, {0, 1}}, Accept: []int{-1, -1, 5}}, // a tag that is not come to
		built(t, "[^\\x00-\\xff]"), built(t), built(t, "ab[^\\x00-\\xff]c"),
	} {
		wantSame(t, "without a text", least(t, a), none)
	}
	all := make([]int, 256)
	wantSame(t, "all states alike", least(t, automata.Automaton{Class: class, Next: [][]int{{1, 0}, {0, 1}}, Accept: []int{3, 3}}), automata.Automaton{Class: all, Next: [][]int{{0}}, Accept: []int{3}})
	wantSame(t, "only nothing", least(t, automata.Automaton{Class: class, Next: [][]int{{1, 1}, {1, 1}}, Accept: []int{3, -1}}), automata.Automaton{Class: all, Next: [][]int{{-1}}, Accept: []int{3}})
	wantSame(t, "other tags", least(t, automata.Automaton{Class: class, Next: [][]int{{1, 2}, {-1, -1}, {-1, -1}}, Accept: []int{-1, math.MaxInt, 0}}), automata.Automaton{Class: class, Next: [][]int{{1, 2}, {-1, -1}, {-1, -1}}, Accept: []int{-1, math.MaxInt, 0}})
	wantSame(t, "one tag", least(t, automata.Automaton{Class: class, Next: [][]int{{1, 2}, {-1, -1}, {-1, -1}}, Accept: []int{-1, 9, 9}}), automata.Automaton{Class: all, Next: [][]int{{1}, {-1}}, Accept: []int{-1, 9}})
	wantSame(t, "numbered otherwise", least(t, automata.Automaton{Class: class, Next: [][]int{{2, 1}, {-1, -1}, {-1, 2}}, Accept: []int{-1, 1, 2}}), automata.Automaton{Class: class, Next: [][]int{{1, 2}, {-1, 1}, {-1, -1}}, Accept: []int{-1, 2, 1}})
}

// The greatest automata, and the slowest to be told apart.
func TestLeastOfGreatAutomata(t *testing.T) {
	a := line(api.MaxStates, 256)
	got := least(t, a)
	if len(got.Next) != api.MaxStates {
		t.Errorf("%d states are left of a line", len(got.Next))
	}
	wantNumberedWell(t, "a line", got)
	slow := line(api.MaxStates, 256) // each state but the last goes to the next one by all classes
	for state, row := range slow.Next {
		for c := range row {
			row[c] = min(state+1, api.MaxStates-1)
		}
	}
	got = least(t, slow)
	if len(got.Next) != api.MaxStates || len(got.Next[0]) != 1 {
		t.Errorf("%d states and %d classes are left of a line", len(got.Next), len(got.Next[0]))
	}
	for state := range slow.Accept {
		slow.Accept[state] = state % 4
	}
	slow.Next[api.MaxStates-1] = make([]int, 256)
	if got = least(t, slow); len(got.Next) != 4 {
		t.Errorf("%d states are left of a ring", len(got.Next))
	}
}

// leadsOfBoth: the least of the bytes that go alike in both.
func leadsOfBoth(a, b automata.Automaton) []byte {
	var leads []byte
	for i := range 256 {
		if !slices.ContainsFunc(leads, func(c byte) bool { return a.Class[c] == a.Class[i] && b.Class[c] == b.Class[i] }) {
			leads = append(leads, byte(i))
		}
	}
	return leads
}

// wantedWitness: of all texts, shorter ones first, each length rising.
func wantedWitness(a, b automata.Automaton) (witness []byte, differ bool) {
	leads := string(leadsOfBoth(a, b))
	for n := range len(a.Next) + len(b.Next) {
		texts(leads, n, func(text string) {
			if !differ && tagOf(a, []byte(text)) != tagOf(b, []byte(text)) {
				witness, differ = []byte(text), true
			}
		})
	}
	return witness, differ
}

// F12.5, P1205: the shortest witness and the least of its length, and whether there is one.
func TestDiffer(t *testing.T) {
	r := rand.New(rand.NewSource(10))
	long, alike := 0, 0
	for i := range 700 {
		a := someAutomaton(r, 3, 2, 1)
		b := someAutomaton(r, 3, 2, 1)
		switch i % 4 {
		case 0:
			b = renumbered(r, a)
			b.Next[r.Intn(len(b.Next))][r.Intn(len(b.Next[0]))] = -1
		case 1: // the state that is come to last has another tag
			a = least(t, someAutomaton(r, 5, 2, 2))
			b = copied(a)
			b.Accept[len(b.Next)-1]++
		case 2:
			if b = disguised(r, a); len(b.Next) > 5 || len(b.Next[0]) > 2 {
				b = a
			}
		}
		witness, differ := wantedWitness(a, b)
		for _, pair := range [][2]automata.Automaton{{a, b}, {b, a}} {
			got, is, e := automata.Differ(pair[0], pair[1])
			if !bytes.Equal(got, witness) || is != differ || e != api.OK {
				t.Errorf("Differ(%v, %v): %v, %v, %v, not %v, %v", pair[0], pair[1], got, is, e, witness, differ)
			}
		}
		if same(least(t, a), least(t, b)) == differ {
			t.Errorf("Differ(%v, %v) is %v, but their Least are not so", a, b, differ)
		}
		if len(witness) > 1 {
			long++
		}
		if !differ {
			alike++
		}
	}
	if long < 40 || alike < 40 {
		t.Errorf("%d witnesses had two bytes and more, %d pairs had none: that tells little", long, alike)
	}
}

// F12.5, P1205: of patterns, with witnesses that were written down.
func TestDifferOfPatterns(t *testing.T) {
	list := func(patterns ...string) []string { return patterns }
	for _, z := range []struct {
		a, b    []string
		witness string
		differ  bool
	}{
		{list("a*"), list("a+"), "", true}, {list("a*"), list("(a*)*"), "", false}, {list("a"), list("b"), "a", true}, {list("b"), list("ab"), "b", true}, {list("ab"), list("abc"), "ab", true},
		{list("a", "b"), list("b", "a"), "a", true}, {list("a", "b"), list("a"), "b", true}, {list("a", "a"), list("a"), "", false}, {list(), list("[^\\x00-\\xff]"), "", false}, {list(), list(""), "", true}, {list(""), list("", ""), "", false}, {list("x", ""), list(""), "", true},
		{list("(a|b)*"), list("(a|b)*abb|(a|b)*"), "", false}, {list("[ab]*"), list("[ab]*", "c"), "c", true}, {list("[ab]*"), list("[^\\x00-\\xff]", "[ab]*"), "", true},
		{list("(aa)*"), list("(aaa)*"), "aa", true}, {list("(aaaaa)*|a*"), list("a?a?a?a?"), "aaaaa", true}, {list("[\\x00-\\xff]*"), list(".*"), "\n", true}, {list("[\\x00-\\xff]?"), list(""), "\x00", true}, {list("\xff\xfe\xff"), list("\xff\xff\xfe"), "\xff\xfe\xff", true},
		{list("[b-y]x|zz"), list("[b-y]|zz"), "b", true}, {list("c[ab]"), list("b[cd]"), "bc", true}, {list("(a|b)(a|b)(a|b)c"), list("(a|b)(a|b)(a|b)d|aaac"), "aaad", true},
	} {
		w, differ, e := automata.Differ(built(t, z.a...), built(t, z.b...))
		if string(w) != z.witness || differ != z.differ || e != api.OK {
			t.Errorf("Differ(%q, %q): %q, %v, %v", z.a, z.b, w, differ, e)
		}
	}
}

// P1205: witnesses that are as long as they can be, and automata as great as they can be.
func TestDifferOfGreatAutomata(t *testing.T) {
	ring := func(states int, tag func(state int) int) automata.Automaton {
		a := automata.Automaton{Class: make([]int, 256)}
		for state := range states {
			a.Next = append(a.Next, []int{(state + 1) % states})
			a.Accept = append(a.Accept, tag(state))
		}
		return a
	}
	zero := func(int) int { return 0 }
	if w, differ, e := automata.Differ(ring(512, zero), ring(511, zero)); w != nil || differ || e != api.OK {
		t.Errorf("rings without an end: %v, %v, %v", w, differ, e)
	}
	last := func(n int) func(int) int { return func(state int) int { return max(-1, state-n) } } // only the last one has a tag
	w, differ, e := automata.Differ(ring(512, last(511)), ring(511, last(510)))
	if len(w) != 510 || !differ || e != api.OK || slices.Max(w) != 0 {
		t.Errorf("rings: a witness of %d bytes, %v, %v", len(w), differ, e)
	}
	a, b := line(512, 1), line(512, 1)
	b.Accept[511] = 1
	w, differ, e = automata.Differ(a, b)
	if len(w) != 511 || !differ || e != api.OK {
		t.Errorf("lines: a witness of %d bytes, %v, %v", len(w), differ, e)
	}
}
