package automata_test

import (
	"bytes"
	"math"
	"math/big"
	"math/rand"
	"testing"

	"orrery/api"
	"orrery/automata"
)

func wantCount(t *testing.T, what string, a automata.Automaton, n int, want uint64, wantError api.Errno) {
	t.Helper()
	if got, e := automata.Count(a, n); got != want || e != wantError {
		t.Errorf("Count of %s, %d: %d, %v, not %d, %v", what, n, got, e, want, wantError)
	}
}

// F12.6: texts one by one.
func TestCountOfShortTexts(t *testing.T) {
	r := rand.New(rand.NewSource(11))
	for range 15 {
		a := someAutomaton(r, 4, 4, 2)
		var counts [3]uint64
		for b := range 256 {
			for c := range 256 {
				if tagOf(a, []byte{byte(b), byte(c)}) >= 0 {
					counts[2]++
				}
			}
			if tagOf(a, []byte{byte(b)}) >= 0 {
				counts[1]++
			}
		}
		if a.Accept[0] >= 0 {
			counts[0] = 1
		}
		for n, want := range counts {
			wantCount(t, "some automaton", a, n, want, api.OK)
		}
	}
	for _, z := range []struct {
		pattern string
		n       int
		want    uint64
	}{{"(a|b)*abb", 5, 4}, {"(a|b)*abb", 3, 1}, {"(a|b)*abb", 2, 0}, {"", 0, 1}, {"", 1, 0}, {"a*", 0, 1}, {"a*", 1024, 1}, {".", 1, 255}, {"..", 2, 255 * 255}, {"[\\x00-\\xff]*", 3, 1 << 24}, {"\\d+|[a-f]*", 2, 136}, {"a|a|a", 1, 1}, {"[^\\x00-\\xff]", 1, 0}, {"[^\\x00-\\xff]*", 0, 1}} {
		wantCount(t, z.pattern, built(t, z.pattern), z.n, z.want, api.OK)
	}
	wantCount(t, "two patterns with the same texts", built(t, "[a-d]", "[c-f]"), 1, 6, api.OK)
	great := line(2, 1)
	great.Accept[1] = math.MaxInt
	wantCount(t, "a great tag", great, 1, 256, api.OK)
}

// F12.6: round in 64 bits.
func TestCountGoesRound(t *testing.T) {
	r := rand.New(rand.NewSource(12))
	round := new(big.Int).Lsh(big.NewInt(1), 64)
	dots, all := built(t, ".*"), built(t, "[\\x00-\\xff]*")
	for _, n := range []int{0, 1, 2, 7, 8, 9, 63, 64, 65, 100, 1023, 1024} {
		power := new(big.Int).Exp(big.NewInt(255), big.NewInt(int64(n)), round)
		wantCount(t, ".*", dots, n, power.Uint64(), api.OK)
		power.Exp(big.NewInt(256), big.NewInt(int64(n)), round)
		wantCount(t, "all texts", all, n, power.Uint64(), api.OK)
	}
	for range 10 {
		a, n := someAutomaton(r, 4, 4, 2), r.Intn(1025)
		texts := make([]*big.Int, len(a.Next)) // that are had from each state on
		for state := range texts {
			texts[state] = big.NewInt(int64(min(a.Accept[state], 0) + 1))
		}
		for range n {
			more := make([]*big.Int, len(texts))
			for state, row := range a.Next {
				more[state] = new(big.Int)
				for _, c := range a.Class {
					if row[c] >= 0 {
						more[state].Add(more[state], texts[row[c]])
					}
				}
				more[state].Mod(more[state], round)
			}
			texts = more
		}
		wantCount(t, "some automaton", a, n, texts[0].Uint64(), api.OK)
	}
}

// F12.6: the edges of n; what is no automaton goes ahead (run_test.go).
func TestCountAtItsEdges(t *testing.T) {
	a := built(t, "a*")
	wantCount(t, "a*", a, 0, 1, api.OK)
	wantCount(t, "a*", a, -1, 0, api.ErrArg)
	wantCount(t, "a*", a, math.MinInt, 0, api.ErrArg)
	wantCount(t, "a*", a, 1024, 1, api.OK)
	wantCount(t, "a*", a, 1025, 0, api.ErrBig)
	wantCount(t, "a*", a, math.MaxInt, 0, api.ErrBig)
	wantCount(t, "the greatest one", line(512, 256), 511, 1, api.OK)
	wantCount(t, "a line with a class of two bytes, twice", line(512, 255), 511, 4, api.OK)
	wantCount(t, "a line", line(512, 256), 510, 0, api.OK)
}

// wantedSome: of all texts, shorter ones first, each length rising.
func wantedSome(a automata.Automaton, tag int) (text []byte, found bool) {
	leads := string(leadsOfBoth(a, a))
	for n := range len(a.Next) {
		texts(leads, n, func(s string) {
			if !found && tagOf(a, []byte(s)) == tag {
				text, found = []byte(s), true
			}
		})
	}
	return text, found
}

// F12.6: the shortest text, and the least of its length.
func TestSome(t *testing.T) {
	r := rand.New(rand.NewSource(13))
	long, none := 0, 0
	for range 500 {
		a := someAutomaton(r, 6, 3, 9)
		for tag := range 10 {
			want, found := wantedSome(a, tag)
			got, is := automata.Some(a, tag)
			if !bytes.Equal(got, want) || is != found {
				t.Errorf("Some(%v, %d): %v, %v, not %v, %v", a, tag, got, is, want, found)
			}
			if len(want) > 1 {
				long++
			}
			if !found {
				none++
			}
		}
	}
	if long < 100 || none < 100 {
		t.Errorf("%d texts had two bytes and more, %d were not there: that tells little", long, none)
	}
}

func TestSomeOfPatterns(t *testing.T) {
	for _, z := range []struct {
		patterns []string
		tag      int
		want     string
		found    bool
	}{
		{[]string{"(a|b)*abb"}, 0, "abb", true}, {[]string{"(a|b)*abb"}, 1, "", false}, {[]string{"(a|b)*abb"}, -1, "", false}, {[]string{"(a|b)*abb"}, math.MinInt, "", false}, {[]string{"a"}, math.MaxInt, "", false},
		{[]string{""}, 0, "", true}, {[]string{"a*", "b"}, 0, "", true}, {[]string{"a*", "b"}, 1, "b", true}, {[]string{"a*", "a"}, 1, "", false}, {[]string{"[^\\x00-\\xff]"}, 0, "", false}, {nil, 0, "", false}, {nil, -1, "", false},
		{[]string{"cc|b[yx]|z"}, 0, "z", true}, {[]string{"cc|b[yx]"}, 0, "bx", true}, {[]string{"[\\x00-\\xff]+"}, 0, "\x00", true}, {[]string{"[^\\x00]"}, 0, "\x01", true}, {[]string{"\xff.."}, 0, "\xff\x00\x00", true}, {[]string{"if", "[a-z]+", "\\d+"}, 2, "0", true}, {[]string{"a", "[a-z]"}, 1, "b", true},
	} {
		got, found := automata.Some(built(t, z.patterns...), z.tag)
		if string(got) != z.want || found != z.found {
			t.Errorf("Some(%q, %d): %q, %v", z.patterns, z.tag, got, found)
		}
	}
	a := line(512, 256)
	if got, found := automata.Some(a, 0); len(got) != 511 || !found || tagOf(a, got) != 0 {
		t.Errorf("Some of a line: %v, %v", got, found)
	}
	class := make([]int, 256) // the classes are in another order than the bytes
	class['a'], class['b'] = 2, 1
	for b := range class {
		if b != 'a' && b != 'b' {
			class[b] = 0
		}
	}
	a = automata.Automaton{Class: class, Next: [][]int{{-1, 1, 2}, {-1, -1, -1}, {-1, -1, -1}}, Accept: []int{-1, 4, 4}}
	if got, found := automata.Some(a, 4); string(got) != "a" || !found {
		t.Errorf("Some: %q, %v, not a", got, found)
	}
	a.Accept = []int{math.MaxInt, -1, 0}
	if got, found := automata.Some(a, math.MaxInt); len(got) != 0 || !found {
		t.Errorf("Some of the start: %q, %v", got, found)
	}
}
