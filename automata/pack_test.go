package automata_test

import (
	"math"
	"math/rand"
	"slices"
	"testing"

	"orrery/api"
	"orrery/automata"
)

// F12.7: word by word.
func TestPack(t *testing.T) {
	a := automata.Automaton{Class: make([]int, 256), Next: [][]int{{-1, 1}, {0, -1}, {2, 2}}, Accept: []int{-1, 0, 1<<31 - 1}}
	a.Class[3], a.Class[255] = 1, 1
	want := append([]uint32{2, 3}, make([]uint32, 256)...)
	want[2+3], want[2+255] = 1, 1
	want = append(want, 0xffffffff, 1, 0xffffffff, 0, 0xffffffff, 0, 2, 2, 0x7fffffff)
	words, e := automata.Pack(a)
	if !slices.Equal(words, want) || e != api.OK {
		t.Errorf("Pack: %v, %v, not %v", words, e, want)
	}
	back, e := automata.Unpack(want)
	if e != api.OK {
		t.Errorf("Unpack: %v", e)
	}
	wantSame(t, "Unpack", back, a)
}

// wantThereAndBack: P1206.
func wantThereAndBack(t *testing.T, what string, a automata.Automaton) {
	t.Helper()
	words, e := automata.Pack(a)
	if e != api.OK {
		t.Errorf("Pack of %s: %v", what, e)
		return
	}
	if len(words) != 258+len(a.Next)*(len(a.Next[0])+1) {
		t.Errorf("Pack of %s: %d words", what, len(words))
	}
	b, e := automata.Unpack(words)
	if e != api.OK {
		t.Errorf("Unpack of %s: %v", what, e)
	}
	wantSame(t, what, b, a)
}

// P1206: of automata of all kinds.
func TestThereAndBack(t *testing.T) {
	r := rand.New(rand.NewSource(14))
	for range 300 {
		wantThereAndBack(t, "some automaton", someAutomaton(r, 12, 12, 1000))
	}
	for _, patterns := range [][]string{nil, {""}, {"a*"}, {"(a|b)*abb"}, {"if", "[a-z]+", "\\d+"}, {"[^\\x00-\\xff]"}} {
		a := built(t, patterns...)
		wantThereAndBack(t, "a pattern", a)
		wantThereAndBack(t, "a Least", least(t, a))
	}
	wantThereAndBack(t, "256 classes", line(14, 256))
	wantThereAndBack(t, "MaxStates states", line(api.MaxStates, 6))
}

// F12.7: MaxWords words, and one more; a tag at 2^31 - 1, and one above.
func TestPackAtItsEdges(t *testing.T) {
	for _, z := range []struct{ states, k int }{{101, 37}, {202, 18}, {38, 100}} { // 258 and 3838 words
		wantThereAndBack(t, "MaxWords words", line(z.states, z.k))
	}
	for _, z := range []struct{ states, k int }{{349, 10}, {102, 37}, {101, 38}, {512, 7}, {512, 256}, {15, 256}} { // the first one has 258 and 3839
		if words, e := automata.Pack(line(z.states, z.k)); words != nil || e != api.ErrBig {
			t.Errorf("Pack of %d states and %d classes: %d words, %v", z.states, z.k, len(words), e)
		}
	}
	a := line(3, 2)
	for _, tag := range []int{0, 1, 1 << 20, math.MaxInt32 - 1, math.MaxInt32} {
		for state := range 3 {
			b := copied(a)
			b.Accept[state] = tag
			wantThereAndBack(t, "a tag", b)
		}
	}
	for _, tag := range []int{math.MaxInt32 + 1, math.MaxUint32, math.MaxUint32 + 1, 1 << 40, math.MaxInt} {
		for state := range 3 {
			b := copied(a)
			b.Accept[state] = tag
			if words, e := automata.Pack(b); words != nil || e != api.ErrBig {
				t.Errorf("Pack of the tag %d: %v, %v", tag, words, e)
			}
		}
	}
}

func wantNoTable(t *testing.T, what string, words []uint32) {
	t.Helper()
	if a, e := automata.Unpack(words); !isZero(a) || e != api.ErrTable {
		t.Errorf("Unpack of %s: %v, %v", what, a, e)
	}
}

// F12.7: words that are none's.
func TestUnpackOfWrongWords(t *testing.T) {
	a := automata.Automaton{Class: make([]int, 256), Next: [][]int{{-1, 1, 2}, {0, 0, 0}, {2, 1, 0}}, Accept: []int{-1, 0, 7}}
	for b := range a.Class {
		a.Class[b] = b % 3
	}
	good, _ := automata.Pack(a)
	for n := range good {
		wantNoTable(t, "too few words", good[:n])
	}
	for n := 1; n < 9; n++ {
		wantNoTable(t, "too many words", append(slices.Clone(good), make([]uint32, n)...))
	}
	wantNoTable(t, "far too many words", append(slices.Clone(good), make([]uint32, 100000)...))
	bent := func(at int, word uint32) []uint32 {
		words := slices.Clone(good)
		words[at] = word
		return words
	}
	for _, word := range []uint32{0, 1, 2, 4, 256, 257, 0x7fffffff, 0x80000000, 0xfffffffe, 0xffffffff, 0x10003} {
		wantNoTable(t, "another number of classes", bent(0, word))
		wantNoTable(t, "another number of states", bent(1, word))
	}
	for at := 2; at < 258; at++ {
		for _, word := range []uint32{3, 255, 256, 0x7fffffff, 0x80000000, 0xffffffff, 0x10000} {
			wantNoTable(t, "a class that is not there", bent(at, word))
		}
	}
	for state := range 3 {
		for c := range 3 {
			for _, word := range []uint32{3, 4, 255, 0x7fffffff, 0x80000000, 0xfffffffe, 0x10000} {
				wantNoTable(t, "a state that is not there", bent(258+4*state+c, word))
			}
		}
		for _, word := range []uint32{0xfffffffe, 0x80000000, 0xf0000000} {
			wantNoTable(t, "a tag that is none", bent(258+4*state+3, word))
		}
	}
	gap := slices.Clone(good)
	for at := 2; at < 258; at++ {
		if gap[at] == 1 {
			gap[at] = 0
		}
	}
	wantNoTable(t, "classes with a gap", gap)
	for at := 2; at < 258; at++ {
		gap[at] = uint32(at % 2)
	}
	wantNoTable(t, "classes without the last one", gap)
	wantNoTable(t, "nothing", nil)
	wantNoTable(t, "no states", append([]uint32{1, 0}, make([]uint32, 256)...))
	wantNoTable(t, "no classes", append([]uint32{0, 1}, make([]uint32, 257)...))
}

// F12.7: other shapes of the same number of words, and words that Pack would not answer.
func TestUnpackAtItsEdges(t *testing.T) {
	make4096 := func(k, states int) []uint32 {
		words := make([]uint32, 258+states*(k+1))
		words[0], words[1] = uint32(k), uint32(states)
		for b := range 256 {
			words[2+b] = uint32(b % k)
		}
		return words
	}
	for _, z := range []struct{ k, states int }{{37, 101}, {18, 202}, {100, 38}, {6, 512}, {256, 14}, {1, 1}, {1, 512}} {
		if a, e := automata.Unpack(make4096(z.k, z.states)); e != api.OK || len(a.Next) != z.states || len(a.Next[0]) != z.k {
			t.Errorf("Unpack of %d classes and %d states: %v", z.k, z.states, e)
		}
	}
	for _, z := range []struct{ k, states int }{{10, 349}, {7, 512}, {256, 15}, {256, 512}, {1, 513}, {2, 600}} {
		wantNoTable(t, "more than MaxWords words, or states", make4096(z.k, z.states))
	}
	words := make4096(3, 5) // the same number of words as of four classes and four states
	words[0], words[1] = 4, 4
	wantNoTable(t, "four classes", words)
	words = make4096(1, 1)
	words[0], words[1] = 0xffffffff, 1 // as numbers with a sign -1 and 1: a state would have no words at all
	wantNoTable(t, "-1 classes", words[:258])
	words[0], words[1] = 0x80000000, 0x80000000
	wantNoTable(t, "counts whose product goes round", words)
}

// Unpack answers just what Pack answers: words by chance.
func TestUnpackIsPackTurnedRound(t *testing.T) {
	r := rand.New(rand.NewSource(15))
	right := 0
	for range 3000 {
		words, _ := automata.Pack(someAutomaton(r, 4, 3, 3))
		for range r.Intn(3) {
			at := r.Intn(len(words))
			if r.Intn(2) == 0 {
				at = 258 + r.Intn(len(words)-258)
			}
			words[at] = uint32(r.Intn(6) - 2)
		}
		a, e := automata.Unpack(words)
		if e == api.ErrTable && isZero(a) {
			continue
		}
		right++
		back, f := automata.Pack(a)
		if e != api.OK || f != api.OK || !slices.Equal(back, words) {
			t.Errorf("Pack(Unpack(%v)): %v, %v, %v", words, back, e, f)
		}
	}
	if right < 1000 || right > 2900 {
		t.Errorf("%d of 3000 were tables: that tells little", right)
	}
}
