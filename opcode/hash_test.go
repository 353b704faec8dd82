package opcode_test

import (
	"math"
	"math/big"
	"testing"

	"orrery/api"
	"orrery/opcode"
)

var (
	noFactors = []int{math.MinInt, math.MinInt32, -256, -7, -1, 256, 257, 263, 335, 1 << 16, 1 << 32, math.MaxInt32, math.MaxInt}
	factors   = []int{0, 1, 2, 6, 7, 8, 25, 26, 78, 79, 80, 127, 128, 254, 255}
)

// wantHash: the sum in whole numbers, and its rest.
func wantHash(t *testing.T, text string, p, q int) {
	t.Helper()
	sum := new(big.Int)
	for i, factor := range []int{1, p, q} {
		product := new(big.Int).Mul(big.NewInt(int64(factor)), big.NewInt(int64(text[i])-'A'))
		sum.Add(sum, product)
	}
	want := int(sum.Mod(sum, big.NewInt(256)).Int64())
	if got, e := opcode.Hash(text, p, q); got != want || e != api.OK {
		t.Errorf("Hash(%q, %d, %d) = %d, %v; not %d", text, p, q, got, e, want)
	}
}

func wantNoHash(t *testing.T, text string, p, q int) {
	t.Helper()
	if got, e := opcode.Hash(text, p, q); got != 0 || e != api.ErrArg {
		t.Errorf("Hash(%q, %d, %d) = %d, %v", text, p, q, got, e)
	}
}

func TestExamplesOfHash(t *testing.T) {
	for text, want := range map[string]int{"LDA": 32, "ADC": 179} {
		if got, e := opcode.Hash(text, 7, 79); got != want || e != api.OK {
			t.Errorf("Hash(%q, 7, 79) = %d, %v; not %d", text, got, e, want)
		}
	}
	wantNoHash(t, "lda", 7, 79)
}

// F18.3: all texts by the pair, telling ones by all pairs.
func TestHash(t *testing.T) {
	capitals(func(text string) { wantHash(t, text, 7, 79) })
	for p := range 256 {
		for q := range 256 {
			for _, text := range []string{"AZY", "ZAB", "BCD"} {
				got, e := opcode.Hash(text, p, q)
				want := (int(text[0]-'A') + p*int(text[1]-'A') + q*int(text[2]-'A')) & 255
				if got != want || e != api.OK {
					t.Fatalf("Hash(%q, %d, %d) = %d, %v; not %d", text, p, q, got, e, want)
				}
			}
		}
	}
	for _, text := range []string{"AAA", "ZZZ", "AAZ", "AZA", "ZAA", "MNO"} {
		for _, p := range factors {
			for _, q := range factors {
				wantHash(t, text, p, q)
			}
		}
	}
}

func TestHashOfWrongPairs(t *testing.T) {
	for _, text := range []string{"AAA", "LDA", "ZZZ"} {
		for _, no := range noFactors {
			for _, factor := range factors {
				wantNoHash(t, text, no, factor)
				wantNoHash(t, text, factor, no)
			}
			wantNoHash(t, text, no, no)
		}
	}
}

func TestHashOfWrongTexts(t *testing.T) {
	// Texts of three capitals that are no mnemonics have a hash.
	right := func(text string) bool {
		for _, sign := range []byte(text) {
			if sign < 'A' || sign > 'Z' {
				return false
			}
		}
		return len(text) == 3
	}
	for _, text := range noNames() {
		if right(text) {
			wantHash(t, text, 7, 79)
			continue
		}
		wantNoHash(t, text, 7, 79)
		wantNoHash(t, text, 0, 0)
		wantNoHash(t, text, 255, 255)
		wantNoHash(t, text, -1, 256)
	}
	for place := range 3 {
		for sign := range 256 {
			text := []byte("LDA")
			text[place] = byte(sign)
			if right(string(text)) {
				wantHash(t, string(text), 7, 79)
			} else {
				wantNoHash(t, string(text), 7, 79)
			}
		}
	}
}

// unlike: by that pair no two mnemonics have one hash.
func unlike(t *testing.T, p, q int) bool {
	t.Helper()
	var seen [256]bool
	for _, name := range inOrder {
		hash, e := opcode.Hash(name, p, q)
		if e != api.OK || hash < 0 || hash > 255 {
			t.Fatalf("Hash(%s, %d, %d) = %d, %v", name, p, q, hash, e)
		}
		if seen[hash] {
			return false
		}
		seen[hash] = true
	}
	return true
}

// P1804.
func TestPairIsTheFirstThatIsPerfect(t *testing.T) {
	p, q := opcode.Pair()
	if p != 7 || q != 79 {
		t.Fatalf("Pair is %d and %d", p, q)
	}
	if !unlike(t, p, q) {
		t.Error("by the pair two mnemonics have one hash")
	}
	for n := range p*256 + q {
		if unlike(t, n/256, n%256) {
			t.Errorf("by the pair %d and %d no two mnemonics have one hash", n/256, n%256)
		}
	}
}
