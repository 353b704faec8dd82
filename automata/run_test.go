package automata_test

import (
	"math"
	"math/rand"
	"slices"
	"testing"

	"orrery/api"
	"orrery/automata"
)

// wrongs: what is no automaton, by each way in which it can be none.
func wrongs() map[string]automata.Automaton {
	good := automata.Automaton{Class: make([]int, 256), Next: [][]int{{-1, 1, 2}, {0, 0, 0}, {2, 1, 0}}, Accept: []int{-1, 0, 7}}
	for b := range good.Class {
		good.Class[b] = b % 3
	}
	list := map[string]automata.Automaton{"nothing": {}}
	bend := func(what string, change func(a *automata.Automaton)) {
		a := copied(good)
		change(&a)
		list[what] = a
	}
	bend("no classes", func(a *automata.Automaton) { a.Class = nil })
	bend("255 classes", func(a *automata.Automaton) { a.Class = a.Class[:255] })
	bend("257 classes", func(a *automata.Automaton) { a.Class = append(a.Class, 0) })
	bend("a class below 0", func(a *automata.Automaton) { a.Class[255] = -1 })
	bend("a class far below 0", func(a *automata.Automaton) { a.Class[0] = math.MinInt })
	bend("a class too many", func(a *automata.Automaton) { a.Class[9] = 3 })
	bend("a class of 256", func(a *automata.Automaton) { a.Class[9] = 256 })
	bend("a class far above", func(a *automata.Automaton) { a.Class[9] = math.MaxInt })
	bend("a gap among the classes", func(a *automata.Automaton) {
		for b, c := range a.Class {
			if c == 1 {
				a.Class[b] = 0
			}
		}
	})
	bend("no class 0", func(a *automata.Automaton) {
		for b := range a.Class {
			a.Class[b] = 1 + b%2
		}
	})
	bend("the last class lacks", func(a *automata.Automaton) {
		for b := range a.Class {
			a.Class[b] = b % 2
		}
	})
	bend("no states", func(a *automata.Automaton) { a.Next, a.Accept = nil, nil })
	bend("no rows", func(a *automata.Automaton) { a.Next = nil })
	bend("a row too few", func(a *automata.Automaton) { a.Next = a.Next[:2] })
	bend("a row too many", func(a *automata.Automaton) { a.Next = append(a.Next, []int{0, 0, 0}) })
	bend("a short row", func(a *automata.Automaton) { a.Next[2] = a.Next[2][:2] })
	bend("a long row", func(a *automata.Automaton) { a.Next[0] = append(a.Next[0], -1) })
	bend("an empty row", func(a *automata.Automaton) { a.Next[1] = nil })
	bend("short rows", func(a *automata.Automaton) {
		for state := range a.Next {
			a.Next[state] = a.Next[state][:2]
		}
	})
	bend("a state that is not there", func(a *automata.Automaton) { a.Next[2][2] = 3 })
	bend("a state below -1", func(a *automata.Automaton) { a.Next[0][0] = -2 })
	bend("a state far above", func(a *automata.Automaton) { a.Next[1][1] = math.MaxInt })
	bend("a state far below", func(a *automata.Automaton) { a.Next[1][1] = math.MinInt })
	bend("no tags", func(a *automata.Automaton) { a.Accept = nil })
	bend("a tag too few", func(a *automata.Automaton) { a.Accept = a.Accept[:2] })
	bend("a tag too many", func(a *automata.Automaton) { a.Accept = append(a.Accept, -1) })
	bend("a tag below -1", func(a *automata.Automaton) { a.Accept[2] = -2 })
	bend("a tag far below", func(a *automata.Automaton) { a.Accept[0] = math.MinInt })
	list["too many states"] = line(api.MaxStates+1, 1)
	for what, class := range map[string][]int{"no classes": nil, "255 classes": make([]int, 255), "a class below 0": slices.Repeat([]int{-1}, 256), "a class of 256": slices.Repeat([]int{256}, 256), "no class 0": slices.Repeat([]int{1}, 256), "one class": make([]int, 256)} {
		list[what+", and empty rows"] = automata.Automaton{Class: class, Next: [][]int{{}, nil}, Accept: []int{0, -1}}
	}
	return list
}

// F12.4: automata, and what is none.
func TestValid(t *testing.T) {
	r := rand.New(rand.NewSource(5))
	for range 200 {
		if a := someAutomaton(r, 10, 10, 3); !automata.Valid(a) {
			t.Errorf("%v is an automaton", a)
		}
	}
	every := line(5, 256)
	backwards := copied(every)
	slices.Reverse(backwards.Class)
	great := line(2, 1)
	great.Accept[0], great.Accept[1] = math.MaxInt, 0
	for what, a := range map[string]automata.Automaton{"one state": line(1, 1), "MaxStates states": line(api.MaxStates, 256), "256 classes": every, "classes in any order": backwards, "a great tag": great} {
		if !automata.Valid(a) {
			t.Errorf("%s: it is an automaton", what)
		}
	}
	for what, a := range wrongs() {
		if automata.Valid(a) {
			t.Errorf("%s: it is none", what)
		}
	}
}

// ErrArg, -1 and false of what is no automaton, whatever else is asked.
func TestWhatIsNoAutomaton(t *testing.T) {
	good := line(2, 2)
	for what, a := range wrongs() {
		for _, text := range []string{"", "a", "abc"} {
			if tag := automata.Match(a, []byte(text)); tag != -1 {
				t.Errorf("%s: Match: %d", what, tag)
			}
			for from := -1; from < 5; from++ {
				if tag, n := automata.Longest(a, []byte(text), from); tag != -1 || n != 0 {
					t.Errorf("%s: Longest: %d, %d", what, tag, n)
				}
			}
		}
		if b, e := automata.Least(a); !isZero(b) || e != api.ErrArg {
			t.Errorf("%s: Least: %v, %v", what, b, e)
		}
		for _, pair := range [][2]automata.Automaton{{a, good}, {good, a}, {a, a}} {
			if w, differ, e := automata.Differ(pair[0], pair[1]); w != nil || differ || e != api.ErrArg {
				t.Errorf("%s: Differ: %v, %v, %v", what, w, differ, e)
			}
		}
		for _, n := range []int{-1, 0, 1, 1024, 1025} {
			if c, e := automata.Count(a, n); c != 0 || e != api.ErrArg {
				t.Errorf("%s: Count: %d, %v", what, c, e)
			}
		}
		for _, tag := range []int{-1, 0, 7} {
			if b, found := automata.Some(a, tag); b != nil || found {
				t.Errorf("%s: Some: %v, %v", what, b, found)
			}
		}
		if w, e := automata.Pack(a); w != nil || e != api.ErrArg {
			t.Errorf("%s: Pack: %v, %v", what, w, e)
		}
	}
}

// F12.4: Match by the states.
func TestMatch(t *testing.T) {
	r := rand.New(rand.NewSource(6))
	had := 0
	for range 300 {
		a := someAutomaton(r, 5, 5, 3)
		for range 20 {
			text := make([]byte, r.Intn(10))
			r.Read(text)
			want := tagOf(a, text)
			if want >= 0 {
				had++
			}
			if got := automata.Match(a, text); got != want {
				t.Errorf("Match(%v, %v): %d, not %d", a, text, got, want)
			}
		}
	}
	if had < 1000 {
		t.Errorf("%d texts were had: that tells little", had)
	}
	if got := automata.Match(line(1, 1), nil); got != 0 {
		t.Errorf("Match of nothing: %d", got)
	}
}

// P1203: the greatest n of all beginnings that Match tells a tag of.
func TestLongestIsTheGreatestBeginning(t *testing.T) {
	r := rand.New(rand.NewSource(7))
	lists := [][]string{{"if", "[a-z]+"}, {"a", "ab", "abcd"}, {"a*b"}, {"", "aa"}, {"(ab)*", "a"}, {"[^\\x00-\\xff]"}, nil, {"a|abab|ababab"}, {"b*", "(a|b)*abb"}}
	var machines []automata.Automaton
	for _, patterns := range lists {
		machines = append(machines, built(t, patterns...))
	}
	for range 60 {
		machines = append(machines, someAutomaton(r, 5, 4, 3))
	}
	shorter := 0
	for _, a := range machines {
		for range 30 {
			text := make([]byte, r.Intn(9))
			for i := range text {
				text[i] = "aabbc"[r.Intn(5)]
			}
			for from := range len(text) + 1 {
				tag, n := -1, 0
				for end := from; end <= len(text); end++ {
					if m := automata.Match(a, text[from:end]); m >= 0 {
						tag, n = m, end-from
					}
				}
				if tag >= 0 && from+n < len(text) {
					shorter++
				}
				if gotTag, got := automata.Longest(a, text, from); gotTag != tag || got != n {
					t.Errorf("Longest(%v, %q, %d): %d, %d, not %d, %d", a, text, from, gotTag, got, tag, n)
				}
			}
		}
	}
	if shorter < 500 {
		t.Errorf("%d times there was something behind: that tells little", shorter)
	}
}

// F12.4: the edges of from, and texts that go on behind a tag and come to none.
func TestLongestAtItsEdges(t *testing.T) {
	words, blank := built(t, "if", "[a-z]+"), built(t, "ab|abcde", "")
	for _, z := range []struct {
		a            automata.Automaton
		text         string
		from, tag, n int
	}{
		{words, "iffy ", 0, 1, 4}, {words, "if(", 0, 0, 2}, {words, "if", 0, 0, 2}, {words, "if", 1, 1, 1}, {words, "if", 2, -1, 0}, {words, "", 0, -1, 0}, {words, " if", 0, -1, 0},
		{words, "if", 3, -1, 0}, {words, "if", -1, -1, 0}, {words, "if", math.MaxInt, -1, 0}, {words, "if", math.MinInt, -1, 0}, {words, "", 1, -1, 0}, {words, "", -1, -1, 0},
		{blank, "", 0, 1, 0}, {blank, "x", 0, 1, 0}, {blank, "x", 1, 1, 0}, {blank, "x", 2, -1, 0}, {blank, "x", -1, -1, 0}, {blank, "abcd", 0, 0, 2}, {blank, "abcde", 0, 0, 5}, {blank, "a", 0, 1, 0}, {blank, "abab", 2, 0, 2},
	} {
		if tag, n := automata.Longest(z.a, []byte(z.text), z.from); tag != z.tag || n != z.n {
			t.Errorf("Longest(%q, %d): %d, %d, not %d, %d", z.text, z.from, tag, n, z.tag, z.n)
		}
	}
	if tag, n := automata.Longest(blank, nil, 0); tag != 1 || n != 0 {
		t.Errorf("Longest of nothing: %d, %d", tag, n)
	}
	if tag, n := automata.Longest(words, []byte("if(")[:2:2], 3); tag != -1 || n != 0 { // nothing is read behind the end
		t.Errorf("Longest behind the end: %d, %d", tag, n)
	}
	if tag, n := automata.Longest(words, []byte("ifx")[:2], 0); tag != 0 || n != 2 {
		t.Errorf("Longest ahead of spare room: %d, %d", tag, n)
	}
}
