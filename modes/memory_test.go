package modes_test

import (
	"fmt"
	"slices"
	"testing"

	"orrery/api"
	"orrery/lexer"
	"orrery/modes"
)

var spare = lexer.Token{Kind: 77, Text: "spare", Value: 78, At: 79}

var operands = []string{"", "a", "#", "#1", "#1+2", "1", "1+2*3", "1,x", "1+2,y", ",x", "(1+2)", "()", "(1+2,x)", "(1+2),y", "(1+2)*3", "(1"}

// Rule 4: tokens that are handed in are not changed, their spare room neither.
func TestTokensHandedInStay(t *testing.T) {
	for _, line := range operands {
		list := lex(t, line)
		want := append(slices.Clone(list), spare, spare, spare)
		given := slices.Clone(want)
		form, _, _ := modes.Split(given[:len(list)])
		if !slices.Equal(given, want) {
			t.Errorf("%q: changed to %+v", line, given)
		}
		full := form.Expr[:cap(form.Expr)]
		for i := range full {
			full[i] = spare
		}
		_ = append(form.Expr, spare, spare, spare, spare)
		if !slices.Equal(given, want) {
			t.Errorf("%q: what the caller writes into Expr is seen: %+v", line, given)
		}
	}
}

// Rule 4: what is handed in is not kept.
func TestTokensHandedInAreNotKept(t *testing.T) {
	for _, line := range operands {
		given := lex(t, line)
		form, _, _ := modes.Split(given)
		before := fmt.Sprintf("%+v", form)
		for i := range given {
			given[i] = spare
		}
		if got := fmt.Sprintf("%+v", form); got != before {
			t.Errorf("%q: the form hangs on the tokens: %s, not %s", line, got, before)
		}
	}
}

func TestBytesHandedInStay(t *testing.T) {
	for mode := range all {
		for n := range 4 {
			given := []byte{1, 2, 3, 4, 5, 6}
			modes.Operand(mode, given[:n], 9)
			if !slices.Equal(given, []byte{1, 2, 3, 4, 5, 6}) {
				t.Errorf("mode %d: %d bytes were changed to %v", mode, n, given)
			}
		}
	}
}

// handedOut: holds two answers of a call against each other, when one of them, and its spare room, was written over.
func handedOut[T comparable](t *testing.T, what string, call func() []T, other T) {
	t.Helper()
	first, second := call(), call()
	want := slices.Clone(first)
	full := first[:cap(first)]
	for i := range full {
		full[i] = other
	}
	if !slices.Equal(second, want) || !slices.Equal(call(), want) {
		t.Errorf("%s: what the caller wrote is seen", what)
	}
}

// Rule 4: nobody sees what the caller writes into what was handed out, into its spare room neither.
func TestWhatIsHandedOutIsTheCallers(t *testing.T) {
	for kind := range 10 {
		handedOut(t, fmt.Sprint("May ", kind), func() []int { return modes.May(kind) }, -7)
	}
	for mode := range all {
		handedOut(t, fmt.Sprint("Bytes ", mode), func() []byte {
			b, e := modes.Bytes(mode, 0x12, 0x20)
			if e != api.OK {
				t.Error(e)
			}
			return b
		}, 0xee)
	}
	for _, line := range operands {
		list := lex(t, line)
		handedOut(t, "Split "+line, func() tokens {
			f, _, _ := modes.Split(list)
			return f.Expr
		}, spare)
	}
	handedOut(t, "Rule", modes.Rule, 0xffffffff)
	handedOut(t, "Words", modes.Words, 0xffffffff)
	if !slices.Equal(modes.Rule(), modes.Words()) {
		t.Error("Words is not Rule")
	}
}

// Rule 5: the same each time, whatever was asked between.
func TestSameEachTime(t *testing.T) {
	whole := func(line string) string {
		form, place, e := modes.Split(lex(t, line))
		return fmt.Sprintf("%+v %d %v %v", form, place, e, modes.May(form.Kind))
	}
	var first []string
	for _, line := range operands {
		first = append(first, whole(line))
	}
	for range 3 {
		for n := range operands {
			n = len(operands) - 1 - n
			if got := whole(operands[n]); got != first[n] {
				t.Errorf("%q: %s, not %s", operands[n], got, first[n])
			}
		}
	}
}
