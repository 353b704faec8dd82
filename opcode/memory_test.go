package opcode_test

import (
	"fmt"
	"slices"
	"testing"

	"orrery/opcode"
)

// handedOut: holds answers of a call against each other, when one of them, and its spare room, was written over.
func handedOut[T comparable](t *testing.T, what string, call func() []T, other T) {
	t.Helper()
	first, second := call(), call()
	want, calls := slices.Clone(first), answers()
	full := first[:cap(first)]
	for i := range full {
		full[i] = other
	}
	_ = append(first, other, other)
	if !slices.Equal(second, want) || !slices.Equal(call(), want) {
		t.Errorf("%s: what the caller wrote is seen", what)
	}
	if answers() != calls {
		t.Errorf("%s: what the caller wrote is seen by other calls", what)
	}
}

// answers: what all calls answer of all bytes and mnemonics.
func answers() string {
	p, q := opcode.Pair()
	list := []any{opcode.Words(), opcode.Rule(), opcode.Mnemonics(), p, q}
	for op := range 256 {
		name, mode, ok := opcode.Of(byte(op))
		base, extra, has := opcode.Cycles(byte(op))
		list = append(list, name, mode, ok, base, extra, has)
	}
	for _, name := range append([]string{"", "lda", "XYZ"}, inOrder...) {
		number, ok := opcode.Number(name)
		hash, e := opcode.Hash(name, p, q)
		code, has := opcode.Code(name, 3)
		list = append(list, opcode.Known(name), number, ok, opcode.Class(name), opcode.Modes(name), hash, e, code, has)
	}
	return fmt.Sprint(list...)
}

// Rule 4: nobody sees what the caller writes into what was handed out, into its spare room neither.
func TestWhatIsHandedOutIsTheCallers(t *testing.T) {
	handedOut(t, "Words", opcode.Words, 0xffffffff)
	handedOut(t, "Rule", opcode.Rule, 0xffffffff)
	handedOut(t, "Mnemonics", opcode.Mnemonics, "LAX")
	for _, name := range append([]string{"", "lda", "XYZ"}, inOrder...) {
		handedOut(t, "Modes "+name, func() []int { return opcode.Modes(name) }, -7)
	}
}

// Rule 5: the same each time.
func TestSameEachTime(t *testing.T) {
	first := answers()
	for range 3 {
		if answers() != first {
			t.Fatal("another answer")
		}
	}
}
