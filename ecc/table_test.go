package ecc

import (
	"slices"
	"testing"
)

// told: the words of an array of the variable's kind, taken of it here by themselves, whichever function of the package does so.
func told(made [tableBytes]byte) []uint32 {
	var words []uint32
	for i, b := range made {
		if i < 64 {
			words = append(words, uint32(b))
		} else {
			words = append(words, uint32(b%16), uint32(b/16))
		}
	}
	return words
}

// P1001: the variable is held by itself against the rule, and a second making against it.
func TestTheVariableIsTheRule(t *testing.T) {
	if !slices.Equal(told(table), Rule()) {
		t.Errorf("the variable tells %v, not %v", told(table), Rule())
	}
	if makeTable() != table {
		t.Error("the table made once more is another one")
	}
}

// F10.1: Words is what stands since the start, not what is made anew, so a table that is bent is told.
func TestWordsTellsTheVariable(t *testing.T) {
	stood := table
	defer func() { table = stood }()
	for i := range table {
		for bit := range 8 {
			table = stood
			table[i] ^= 1 << bit
			if !slices.Equal(Words(), told(table)) {
				t.Fatalf("byte %d bent: Words is %v", i, Words())
			}
			if slices.Equal(Words(), Rule()) {
				t.Fatalf("byte %d bent: Words is Rule", i)
			}
		}
	}
}

// A computed table is what the calls go by: each position and each product that is bent is seen in what they answer.
func TestCallsGoByTheTable(t *testing.T) {
	stood := table
	defer func() { table = stood }()
	for bit := range 64 {
		table = stood
		table[bit] = 100 // where no other bit stands
		syndrome, _, _ := Syndrome(64, Word{Data: 1 << bit})
		w, _ := Encode(64, 1<<bit)
		if syndrome != 100 || w.Check&127 != 100 {
			t.Errorf("data bit %d stands at %d, and is encoded by %d", bit, syndrome, w.Check&127)
		}
		if data, kind, found, e := Decode(64, Word{Data: 1 << bit}); data != 0 || kind != Data || found != bit || e != 0 {
			t.Errorf("data bit %d is not found by its position: %d, %d, %d, %v", bit, data, kind, found, e)
		}
	}
	for n := range 100 {
		table = stood
		table[64+n/2] ^= 1 << (n % 2 * 4)
		for m := range 100 {
			if want := int(told(table)[64+m]); Product(m/10, m%10) != want {
				t.Errorf("product %d bent: Product(%d, %d) is %d, not %d", n, m/10, m%10, Product(m/10, m%10), want)
			}
		}
	}
}
