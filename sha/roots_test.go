package sha

import (
	"bytes"
	"math"
	"math/big"
	"slices"
	"testing"

	"orrery/primes"
)

// told: what the roots tell of a kind, taken of them here by themselves, whichever function of the package does so.
func told(f fractions, kind int) (k, h []uint64) {
	for _, w := range f.cubes {
		if kind > 256 {
			k = append(k, w)
		} else if len(k) < 64 {
			k = append(k, w>>32)
		}
	}
	for i := range 8 {
		h = append(h, map[int]uint64{
			224: f.squares[8+i] & 0xffffffff,
			256: f.squares[i] >> 32,
			384: f.squares[8+i],
			512: f.squares[i],
		}[kind])
	}
	return k, h
}

// chainOf: what the next block of a state begins with, as wide as its kind has it.
func chainOf(s *State) []uint64 {
	if s.kind > 256 {
		return s.wide.words[:]
	}
	var words []uint64
	for _, w := range s.narrow.words {
		words = append(words, uint64(w))
	}
	return words
}

func kindsOf(t *testing.T, each func(kind int, k, h []uint64)) {
	for kind, rounds := range map[int]int{224: 64, 256: 64, 384: 80, 512: 80} {
		k, h, _ := primes.Constants(kind)
		if len(k) != rounds || len(h) != 8 {
			t.Fatalf("the kind %d has %d and %d constants", kind, len(k), len(h))
		}
		each(kind, k, h)
	}
}

func wantWords(t *testing.T, kind int, what string, got, want []uint64) {
	t.Helper()
	if len(got) != len(want) {
		t.Fatalf("%d: %s has %d words, not %d", kind, what, len(got), len(want))
	}
	for i := range want {
		if got[i] != want[i] {
			t.Errorf("%d: %s[%d] is %x, not %x", kind, what, i, got[i], want[i])
		}
	}
}

// The variable roots is held by itself against primes.Constants, at all words of all kinds.
func TestRootsAreTheConstants(t *testing.T) {
	kindsOf(t, func(kind int, k, h []uint64) {
		gotK, gotH := told(roots, kind)
		wantWords(t, kind, "k of the roots", gotK, k)
		wantWords(t, kind, "h of the roots", gotH, h)
	})
}

// What the digests go by is held against primes.Constants and against the variable, at all words of all kinds.
func TestDigestsGoByTheConstants(t *testing.T) {
	kindsOf(t, func(kind int, k, h []uint64) {
		rootsK, rootsH := told(roots, kind)
		s, _ := Begin(kind)
		c := constantsOf(kind)
		for _, list := range []struct {
			what string
			k, h []uint64
		}{
			{"constantsOf", c.k[:], c.h[:]},
			{"a state that begins", s.k[:], chainOf(s)},
			{"its clone", s.Clone().k[:], chainOf(s.Clone())},
		} {
			for _, want := range []struct{ k, h []uint64 }{{k, h}, {rootsK, rootsH}} {
				wantWords(t, kind, "k of "+list.what, list.k[:len(want.k)], want.k)
				wantWords(t, kind, "h of "+list.what, list.h, want.h)
			}
			if slices.ContainsFunc(list.k[len(k):], func(w uint64) bool { return w != 0 }) {
				t.Errorf("%d: %s has constants behind its rounds", kind, list.what)
			}
		}
	})
}

func TestResumedDigestsGoByTheConstants(t *testing.T) {
	for kind, size := range map[int]int{256: 32, 512: 64} {
		k, _, _ := primes.Constants(kind)
		digest := make([]byte, size)
		for i := range digest {
			digest[i] = byte(200 - i)
		}
		s, _ := Resume(kind, digest, 128)
		wantWords(t, kind, "k of a state that goes on", s.k[:len(k)], k)
		var words []uint64
		for at := 0; at < size; at += size / 8 {
			w := uint64(0)
			for _, b := range digest[at : at+size/8] {
				w = w<<8 | uint64(b)
			}
			words = append(words, w)
		}
		wantWords(t, kind, "H of a state that goes on", chainOf(s), words)
	}
}

// Were one of the constants another one, the digest would be: so the blocks go by all of them.
func TestDigestsGoByEachConstant(t *testing.T) {
	kindsOf(t, func(kind int, k, h []uint64) {
		right, _ := Sum(kind, []byte("abc"))
		for i := range k {
			s, _ := Begin(kind)
			s.k[i] ^= 1
			s.Write([]byte("abc"))
			if bytes.Equal(s.Sum(), right) {
				t.Errorf("%d: the digest does not go by k[%d]", kind, i)
			}
		}
	})
}

// Of a variable that is bent Words tells, and no digest hangs on it.
func TestDigestsGoWithoutTheVariable(t *testing.T) {
	stood := roots
	defer func() { roots = stood }()
	digests := func() []byte {
		var all []byte
		for _, kind := range []int{224, 256, 384, 512} {
			sum, _ := Sum(kind, []byte("abc"))
			code, _ := Mac(kind, []byte("key"), []byte("abc"))
			more, _ := Expand(kind, []byte("key"), nil, 100)
			long, _ := Stretch(kind, []byte("key"), []byte("salt"), 2, 100)
			all = slices.Concat(all, sum, code, more, long)
		}
		s, _ := Resume(256, make([]byte, 32), 64)
		return append(all, s.Sum()...)
	}
	before, words := digests(), Words()
	for i := range roots.cubes {
		roots.cubes[i] = ^roots.cubes[i]
	}
	roots.squares = [16]uint64{}
	if !bytes.Equal(digests(), before) {
		t.Error("a digest hangs on the variable")
	}
	for i, w := range Words() {
		if w != ^words[i] {
			t.Errorf("word %d is not taken of the variable", i)
		}
	}
}

// joint: words as one whole number, the highest first.
func joint(words ...uint64) *big.Int {
	x := new(big.Int)
	for _, w := range words {
		x.Lsh(x, 64).Or(x, new(big.Int).SetUint64(w))
	}
	return x
}

// Where sums of words carry hardly a root tells, so the products are held against whole numbers.
func TestTimesCarries(t *testing.T) {
	words := []uint64{0, 1, 2, 3, 1 << 32, 1 << 63, 1<<63 + 1, 1<<64 - 1<<32, 0x6a09e667f3bcc908, math.MaxUint64 - 1, math.MaxUint64}
	for _, whole := range []uint64{0, 1, 7, 511} {
		for _, high := range words {
			for _, low := range words {
				for _, f := range words {
					got := number{whole, high, low}.times(f)
					want := new(big.Int).Mul(joint(whole, high, low), joint(f))
					want.Rsh(want, 64)
					if joint(got.whole, got.high, got.low).Cmp(want) != 0 {
						t.Errorf("%x times %x: %x, not %x", joint(whole, high, low), f, got, want)
					}
				}
			}
		}
	}
}

func TestWholePower(t *testing.T) {
	for w := range uint64(21) {
		for _, f := range []uint64{0, 1, 1 << 63, 1<<63 - 1, 0x428a2f98d728ae22, math.MaxUint64 - 1, math.MaxUint64} {
			for _, k := range []int{2, 3} {
				want := new(big.Int).Exp(joint(w, f), big.NewInt(int64(k)), nil)
				want.Rsh(want, uint(64*k))
				if got := wholePower(w, f, k); joint(got).Cmp(want) != 0 {
					t.Errorf("%x to the %d: %d, not %d", joint(w, f), k, got, want)
				}
			}
		}
	}
}
