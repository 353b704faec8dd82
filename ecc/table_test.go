package ecc

import (
	mathbits "math/bits"
	"slices"
	"strconv"
	"testing"
)

// told: the words of an array of the variable's kind, taken of it here by themselves, whichever function of the package does so.
func told(made [tableBytes]byte) []uint32 {
	var words []uint32
	for i, b := range made {
		if i < 64 {
			words = append(words, uint32(b))
		} else {
			words = append(words, uint32(b%16), uint32(b/16))
		}
	}
	return words
}

// P1001: the variable is held by itself against the rule, and a second making against it.
func TestTheVariableIsTheRule(t *testing.T) {
	if !slices.Equal(told(table), Rule()) {
		t.Errorf("the variable tells %v, not %v", told(table), Rule())
	}
	if makeTable() != table {
		t.Error("the table made once more is another one")
	}
}

// F10.1: Words is what stands since the start, not what is made anew, so a table that is bent is told.
func TestWordsTellsTheVariable(t *testing.T) {
	stood := table
	defer func() { table = stood }()
	for i := range table {
		for bit := range 8 {
			table = stood
			table[i] ^= 1 << bit
			if !slices.Equal(Words(), told(table)) {
				t.Fatalf("byte %d bent: Words is %v", i, Words())
			}
			if slices.Equal(Words(), Rule()) {
				t.Fatalf("byte %d bent: Words is Rule", i)
			}
		}
	}
}

// What the calls go by is held against the variable and against the rule, each by itself.
func againstBoth(t *testing.T, each func(t *testing.T, words []uint32)) {
	t.Run("the variable", func(t *testing.T) { each(t, told(table)) })
	t.Run("the rule", func(t *testing.T) { each(t, Rule()) })
}

func TestWordsGoByThePositions(t *testing.T) {
	againstBoth(t, func(t *testing.T, words []uint32) {
		for _, width := range []int{8, 16, 32, 64} {
			r, _ := Checks(width)
			for bit, position := range words[:width] {
				turned := Word{Data: 1 << bit}
				if s, odd, e := Syndrome(width, turned); s != int(position) || !odd || e != 0 {
					t.Errorf("%d: the syndrome of data bit %d is %d, %v, %v, not %d", width, bit, s, odd, e, position)
				}
				parity := (1 + mathbits.OnesCount32(position)) % 2
				whole := Word{Data: 1 << bit, Check: uint8(position) | uint8(parity<<r)}
				if w, e := Encode(width, 1<<bit); w != whole || e != 0 {
					t.Errorf("%d: data bit %d is encoded as %v, %v, not %v", width, bit, w, e, whole)
				}
				for _, w := range []Word{turned, {Check: whole.Check}} {
					if data, kind, found, e := Decode(width, w); data != w.Data^1<<bit || kind != Data || found != bit || e != 0 {
						t.Errorf("%d: of %v data bit %d at %d is decoded as %d, %d, %d, %v", width, w, bit, position, data, kind, found, e)
					}
				}
			}
		}
	})
}

func TestNumbersGoByTheProducts(t *testing.T) {
	againstBoth(t, func(t *testing.T, words []uint32) {
		product := func(a, b int) int { return int(words[64+10*a+b]) }
		for a := range 10 {
			if product(a, Inverse(a)) != 0 {
				t.Errorf("the inverse of %d is %d", a, Inverse(a))
			}
			for b := range 10 {
				if Product(a, b) != product(a, b) {
					t.Errorf("the product of %d and %d is %d, not %d", a, b, Product(a, b), product(a, b))
				}
				behind, e := Verhoeff(string([]byte{'0' + byte(a), '0' + byte(b)}))
				for c := range 10 {
					right := product(product(c, Permuted(1, b)), Permuted(2, a)) == 0
					if right != (behind == '0'+byte(c)) || e != 0 {
						t.Errorf("behind %d and %d stands %q, %v; %d is right: %v", a, b, behind, e, c, right)
					}
					if VerhoeffRight(string([]byte{'0' + byte(a), '0' + byte(b), '0' + byte(c)})) != right {
						t.Errorf("%d%d%d is not right: %v", a, b, c, right)
					}
				}
			}
		}
	})
}

// answers: what the calls answer of each position and each product.
func answers() (list []any) {
	for _, width := range []int{8, 16, 32, 64} {
		for bit := range width {
			w, e := Encode(width, 1<<bit)
			syndrome, odd, f := Syndrome(width, Word{Data: 1 << bit})
			data, kind, found, g := Decode(width, Word{Data: 1 << bit})
			list = append(list, w, e, syndrome, odd, f, data, kind, found, g)
		}
	}
	for n := range 100 {
		digit, e := Verhoeff(strconv.Itoa(n))
		list = append(list, Product(n/10, n%10), Inverse(n), digit, e, VerhoeffRight(strconv.Itoa(n)))
	}
	for _, word := range Rule() {
		list = append(list, word)
	}
	return list
}

// Of a variable that is bent Words alone tells.
func TestCallsGoWithoutTheVariable(t *testing.T) {
	stood, before := table, answers()
	defer func() { table = stood }()
	for i := range table {
		table[i] = ^table[i]
		if !slices.Equal(answers(), before) {
			t.Fatalf("an answer hangs on byte %d of the variable", i)
		}
	}
}
