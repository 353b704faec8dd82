package modes

import (
	"fmt"
	"slices"
	"testing"

	"orrery/lexer"
)

// P1706: the words, written out.
func TestTheTableIsItsRule(t *testing.T) {
	want := []uint32{
		0x000001, // imp
		0x000011, // acc
		0x000022, // imm
		0x070032, // zp: abs is its wide one
		0x080042, // zpx
		0x090052, // zpy
		0x000433, // abs: zp is its narrow one
		0x000543, // abx
		0x000653, // aby
		0x000063, // ind
		0x000072, // inx
		0x000082, // iny
		0x000032, // rel
	}
	if got := Rule(); !slices.Equal(got, want) {
		t.Errorf("Rule is %06x, not %06x", got, want)
	}
	if got := Words(); !slices.Equal(got, want) {
		t.Errorf("Words is %06x, not %06x", got, want)
	}
}

// The parts of the words are what the calls tell.
func TestTheTableIsTheCalls(t *testing.T) {
	for mode, word := range Words() {
		if got := int(word & 3); got != Length(mode) {
			t.Errorf("mode %d: the length is %d", mode, got)
		}
		for kind := range 16 {
			if slices.Contains(May(kind), mode) != (int(word>>4&15) == kind) {
				t.Errorf("mode %d: the kind is %d", mode, word>>4&15)
			}
		}
		for shift, call := range map[int]func(int) (int, bool){8: Narrow, 16: Wide} {
			other, ok := call(mode)
			if part := int(word >> shift & 255); ok && part != other+1 || !ok && part != 0 {
				t.Errorf("mode %d: from bit %d on stands %d", mode, shift, part)
			}
		}
		if word&0xff00000c != 0 {
			t.Errorf("mode %d: the word is %08x", mode, word)
		}
	}
}

// The variable is held by itself against the rule, and a second making against it.
func TestTheVariableIsTheRule(t *testing.T) {
	if !slices.Equal(table[:], Rule()) {
		t.Errorf("the variable is %06x, not %06x", table, Rule())
	}
	if makeTable() != table {
		t.Error("the table made once more is another")
	}
}

// answers: what the calls answer of each mode and kind.
func answers() string {
	var list []any
	for mode := -1; mode <= 13; mode++ {
		narrow, hasNarrow := Narrow(mode)
		wide, hasWide := Wide(mode)
		found, ok := Find(Name(mode))
		list = append(list, Length(mode), Name(mode), found, ok, May(mode), narrow, hasNarrow, wide, hasWide)
		for _, operand := range []int{-1, 0, 18, 255, 256, 65535, 65536} {
			shown, e := Show(mode, operand)
			tokens, _, _ := lexer.Lex(shown)
			form, place, f := Split(tokens)
			b, g := Bytes(mode, operand, 250)
			back, h := Operand(mode, b, 250)
			list = append(list, shown, e, form, place, f, b, g, back, h)
		}
	}
	return fmt.Sprint(append(list, Rule())...)
}

// Words tells what stands since the start, so that a table that is bent is told; no other call hangs on it.
func TestWordsAloneTellsTheVariable(t *testing.T) {
	stood, before := table, answers()
	defer func() { table = stood }()
	for mode := range table {
		for bit := range 32 {
			table = stood
			table[mode] ^= 1 << bit
			want := Rule()
			want[mode] ^= 1 << bit
			if !slices.Equal(Words(), want) {
				t.Fatalf("bit %d of word %d bent: Words is %06x", bit, mode, Words())
			}
			if answers() != before {
				t.Fatalf("an answer hangs on word %d of the variable", mode)
			}
		}
	}
}
