package automata_test

import (
	"slices"
	"strings"
	"testing"

	"orrery/api"
	"orrery/automata"
)

// F12.1, P1201: byte by byte, as the chapter has them.
func TestTheTableIsItsRule(t *testing.T) {
	words := automata.Words()
	if len(words) != 256 || !slices.Equal(automata.Rule(), words) {
		t.Fatalf("Words: %v, Rule: %v", words, automata.Rule())
	}
	for b, word := range words {
		want := uint32(0)
		if b >= 48 && b <= 57 {
			want += 1
		}
		if b >= 48 && b <= 57 || b >= 65 && b <= 90 || b >= 97 && b <= 122 || b == 95 {
			want += 2
		}
		if b == 32 || b == 9 || b == 10 || b == 13 {
			want += 4
		}
		switch b {
		case 40, 41, 42, 43, 46, 63, 91, 92, 93, 124: // ( ) * + . ? [ \ ] |
			want += 8
		}
		if word != want {
			t.Errorf("the word of %d is %d, not %d", b, word, want)
		}
	}
}

// The table is what patterns go by.
func TestPatternsGoByTheTable(t *testing.T) {
	words := automata.Words()
	for bit, escape := range []string{`\d`, `\w`, `\s`} {
		a, in := built(t, escape), built(t, "["+escape+"]")
		for b := range 256 {
			want := -1
			if words[b]>>bit&1 == 1 {
				want = 0
			}
			if got := automata.Match(a, []byte{byte(b)}); got != want {
				t.Errorf("%s has byte %d: %d, not %d", escape, b, got, want)
			}
			if got := automata.Match(in, []byte{byte(b)}); got != want {
				t.Errorf("[%s] has byte %d: %d, not %d", escape, b, got, want)
			}
		}
	}
	for b := range 256 {
		text := []byte{byte(b)}
		a, _, _, e := automata.Build([]string{string(text)})
		itself := e == api.OK && automata.Match(a, text) == 0 && onlyText(a, text)
		if itself != (words[b]&8 == 0) {
			t.Errorf("byte %d is an atom itself: %v; its word is %d", b, itself, words[b])
		}
		if strings.IndexByte(`()[].*+?|\`, byte(b)) >= 0 {
			if escaped := built(t, `\`+string(text)); automata.Match(escaped, text) != 0 || !onlyText(escaped, text) {
				t.Errorf("byte %d, escaped, is not itself", b)
			}
		}
	}
}

// onlyText: has it no text of less than three bytes but this one?
func onlyText(a automata.Automaton, text []byte) bool {
	sum := uint64(0)
	for n := range 3 {
		count, _ := automata.Count(a, n)
		sum += count
	}
	return sum == 1 && automata.Match(a, text) >= 0
}
