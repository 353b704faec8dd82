package opcode_test

import (
	"fmt"
	"slices"
	"testing"

	"orrery/api"
	"orrery/opcode"
)

// tableByChart: F18.1, of the chart and the list that are written out.
func tableByChart(t *testing.T) []uint32 {
	t.Helper()
	words := make([]uint32, 256)
	for op, c := range cells(t) {
		if c.name != "" {
			number := slices.Index(inOrder, c.name)
			words[op] = uint32(number) + 1 + 256*uint32(c.mode) + 4096*uint32(c.base) + 65536*uint32(c.extra)
		}
	}
	for number, name := range inOrder {
		hash := (int(name[0]-'A') + 7*int(name[1]-'A') + 79*int(name[2]-'A')) % 256
		words[hash] += uint32(number+1) * (1 << 24)
	}
	return words
}

// F18.1, P1801: each bit of each word.
func TestTheTableIsItsRule(t *testing.T) {
	want := tableByChart(t)
	for what, got := range map[string][]uint32{"Words": opcode.Words(), "Rule": opcode.Rule()} {
		if len(got) != 256 {
			t.Fatalf("%s has %d words", what, len(got))
		}
		for op := range got {
			if got[op] != want[op] {
				t.Errorf("%s: word %02X is %08X, not %08X", what, op, got[op], want[op])
			}
		}
	}
	if !slices.Equal(opcode.Words(), opcode.Rule()) {
		t.Error("Words is not Rule")
	}
}

// Some words by hand.
func TestSomeWords(t *testing.T) {
	words := opcode.Words()
	for op, want := range map[int]uint32{
		0x00: 0x0000700b, // BRK; its low parts alone
		0x02: 0,
		0x89: 0,
		0xa9: 0x0000221e, // LDA Imm
		0xbd: 0x0001471e, // LDA Abx
		0x9d: 0x00005730, // STA Abx
		0x6c: 0x0000591c, // JMP Ind
		0xd0: 0x00002c09, // BNE Rel
		0xff: 0,
	} {
		if got := words[op] & 0x00ffffff; got != want {
			t.Errorf("word %02X is %06X, not %06X", op, got, want)
		}
	}
	if got := words[32] >> 24; got != 30 {
		t.Errorf("at the hash of LDA stands %d", got)
	}
	if got := words[179] >> 24; got != 1 {
		t.Errorf("at the hash of ADC stands %d", got)
	}
}

// The parts of the words are what the calls tell.
func TestTheTableIsTheCalls(t *testing.T) {
	names := opcode.Mnemonics()
	hashed := 0
	for op, word := range opcode.Words() {
		name, mode, ok := opcode.Of(byte(op))
		number, _ := opcode.Number(name)
		base, extra, _ := opcode.Cycles(byte(op))
		told := fmt.Sprint(word&255, word>>8&15, word>>12&15, word>>16&1)
		if ok && told != fmt.Sprint(number+1, mode, base, extra) || !ok && told != "0 0 0 0" {
			t.Errorf("word %02X is %08X", op, word)
		}
		if word&0x00fe0000 != 0 {
			t.Errorf("word %02X is %08X: a bit stands that tells nothing", op, word)
		}
		if at := int(word >> 24); at > 0 {
			hashed++
			if hash, e := opcode.Hash(names[at-1], 7, 79); hash != op || e != api.OK {
				t.Errorf("word %02X tells %s, whose hash is %d, %v", op, names[at-1], hash, e)
			}
		}
	}
	if hashed != 56 {
		t.Errorf("%d mnemonics stand at hashes", hashed)
	}
}
