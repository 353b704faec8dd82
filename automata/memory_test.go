package automata_test

import (
	"slices"
	"testing"

	"orrery/api"
	"orrery/automata"
)

const spare = 4

// roomy: the list, and behind it spare room that is not 0.
func roomy[T byte | int | uint32](list []T) []T {
	return append(slices.Clone(list), 101, 102, 103, 104)[:len(list)]
}

// roomyAutomaton: each of its lists with spare room.
func roomyAutomaton(a automata.Automaton) automata.Automaton {
	b := automata.Automaton{Class: roomy(a.Class), Accept: roomy(a.Accept)}
	for _, row := range a.Next {
		b.Next = append(b.Next, roomy(row))
	}
	b.Next = append(b.Next, []int{105})[:len(a.Next)]
	return b
}

func wantStays[T byte | int | uint32](t *testing.T, what string, given, list []T) {
	t.Helper()
	if !slices.Equal(given, list) || !slices.Equal(given[:len(list)+spare][len(list):], []T{101, 102, 103, 104}) {
		t.Errorf("%s changes what it is given: %v", what, given[:len(list)+spare])
	}
}

// wantAutomatonStays: neither it nor its spare room is changed.
func wantAutomatonStays(t *testing.T, what string, given, a automata.Automaton) {
	t.Helper()
	wantStays(t, what, given.Class, a.Class)
	wantStays(t, what, given.Accept, a.Accept)
	if len(given.Next) != len(a.Next) || !slices.Equal(given.Next[:len(a.Next)+1][len(a.Next)], []int{105}) {
		t.Errorf("%s changes the rows that it is given", what)
	}
	for state, row := range a.Next {
		wantStays(t, what, given.Next[state], row)
	}
}

// examples: automata of several kinds, one of which is none.
func examples(t *testing.T) []automata.Automaton {
	class := make([]int, 256)
	class[1] = 1
	odd := automata.Automaton{Class: class, Next: [][]int{{2, 2}, {0, 1}, {1, 2}, {3, 3}}, Accept: []int{-1, 5, 5, 5}}
	wrong := copied(odd)
	wrong.Next[3][1] = 4
	return []automata.Automaton{built(t, "(a|b)*abb"), built(t, "a*", "[a-c]+", "x[^\\x00-\\xff]"), built(t), odd, wrong}
}

// Rule 4: what is handed in is not changed, its spare room neither.
func TestWhatIsHandedInStays(t *testing.T) {
	for _, a := range examples(t) {
		given := roomyAutomaton(a)
		for what, call := range map[string]func(){
			"Valid":   func() { automata.Valid(given) },
			"Match":   func() { automata.Match(given, []byte("abb")) },
			"Longest": func() { automata.Longest(given, []byte("abba"), 0) },
			"Least":   func() { automata.Least(given) },
			"Differ": func() {
				automata.Differ(given, line(3, 2))
				automata.Differ(line(3, 2), given)
				automata.Differ(given, given)
			},
			"Count": func() { automata.Count(given, 5) },
			"Some":  func() { automata.Some(given, 0); automata.Some(given, 5) },
			"Pack":  func() { automata.Pack(given) },
		} {
			call()
			wantAutomatonStays(t, what, given, a)
		}
		text := roomy([]byte("abbabb"))
		automata.Match(a, text)
		automata.Longest(a, text, 3)
		wantStays(t, "Match", text, []byte("abbabb"))
		if words, e := automata.Pack(a); e == api.OK {
			given := roomy(words)
			automata.Unpack(given)
			wantStays(t, "Unpack", given, words)
		}
	}
	patterns := []string{"a", "b*", "("}
	automata.Build(patterns[:2])
	automata.Build(patterns)
	if !slices.Equal(patterns, []string{"a", "b*", "("}) {
		t.Errorf("Build changes its patterns: %q", patterns)
	}
}

// spoil: writes into a list and into its spare room.
func spoil[T byte | int | uint32](list []T) {
	list = list[:cap(list)]
	for i := range list {
		list[i] ^= 85
	}
}

// wantListsApart: no two lists of an automaton share memory, in their spare room neither.
func wantListsApart(t *testing.T, what string, maker func() automata.Automaton) {
	t.Helper()
	want := copied(maker())
	for i := range len(want.Next) + 2 {
		a := maker()
		lists := append([][]int{a.Class, a.Accept}, a.Next...)
		wants := append([][]int{want.Class, want.Accept}, want.Next...)
		spoil(lists[i])
		for k := range lists {
			if k != i && !slices.Equal(lists[k], wants[k]) {
				t.Errorf("%s: list %d is seen in list %d", what, i, k)
			}
		}
	}
}

// Rule 4: what is handed out is the caller's: nobody sees what is written into it.
func TestWhatIsHandedOutIsTheCallers(t *testing.T) {
	for what, maker := range map[string]func() []uint32{"Words": automata.Words, "Rule": automata.Rule, "Pack": func() []uint32 {
		words, _ := automata.Pack(line(3, 2))
		return words
	}} {
		list := maker()
		want := slices.Clone(list)
		spoil(list)
		if !slices.Equal(maker(), want) || !slices.Equal(automata.Words(), automata.Rule()) {
			t.Errorf("%s: what the caller wrote is seen", what)
		}
	}
	patterns := []string{"(a|b)*abb", "[a-c]*x"}
	words, _ := automata.Pack(built(t, patterns...))
	for _, z := range examples(t)[:4] {
		makers := map[string]func() automata.Automaton{
			"Build":  func() automata.Automaton { return built(t, patterns...) },
			"Least":  func() automata.Automaton { return least(t, z) },
			"none":   func() automata.Automaton { return least(t, built(t)) },
			"Unpack": func() automata.Automaton { a, _ := automata.Unpack(words); return a },
		}
		for what, maker := range makers {
			wantListsApart(t, what, maker)
			a, before := maker(), copied(z)
			want := copied(a)
			for _, list := range append([][]int{a.Class, a.Accept}, a.Next...) {
				spoil(list)
			}
			wantSame(t, what+", once more", maker(), want)
			wantSame(t, what+": what was handed in", z, before)
		}
		for tag := range 6 {
			text, found := automata.Some(z, tag)
			want := slices.Clone(text)
			spoil(text)
			if again, is := automata.Some(z, tag); is != found || !slices.Equal(again, want) {
				t.Errorf("Some: what the caller wrote is seen")
			}
		}
		text, _, _ := automata.Differ(z, line(3, 2))
		first := slices.Clone(text)
		spoil(text)
		if again, _, _ := automata.Differ(z, line(3, 2)); !slices.Equal(again, first) {
			t.Errorf("Differ: what the caller wrote is seen")
		}
	}
}

// Rule 4: what is handed in is not kept, and what is handed out shares no memory with it.
func TestWhatIsHandedInIsNotKept(t *testing.T) {
	a := built(t, "(a|b)*abb")
	words, _ := automata.Pack(a)
	back, _ := automata.Unpack(words)
	small := least(t, a)
	least1, back1, words1 := copied(small), copied(back), slices.Clone(words)
	for _, list := range append([][]int{a.Class, a.Accept}, a.Next...) {
		spoil(list)
	}
	wantSame(t, "Least", small, least1)
	if !slices.Equal(words, words1) {
		t.Error("Pack shares memory with the automaton")
	}
	spoil(words)
	wantSame(t, "Unpack", back, back1)
	patterns := []string{"a", "b"}
	made := built(t, patterns...)
	before := copied(made)
	patterns[0], patterns[1] = "c", "d"
	wantSame(t, "Build", made, before)
}
