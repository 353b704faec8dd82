package alu_test

import (
	"slices"
	"testing"

	"orrery/alu"
)

// tables: both of them, which P2401 says are one.
var tables = []struct {
	name string
	make func() []uint32
}{{"Words", alu.Words}, {"Rule", alu.Rule}}

// part: so many bits of a word.
func part(word uint32, at, size int) int { return int(word >> at % (1 << size)) }

func TestWordsAndRule(t *testing.T) {
	for _, table := range tables {
		words := table.make()
		if len(words) != 256 {
			t.Fatalf("%s: %d words", table.name, len(words))
		}
		for place, want := range map[int]uint32{0x9f: 0x154f3e80, 0x00: 0x00000002, 0x80: 0x00400080, 0x09: 0x09041200, 0x0a: 0x10051400, 0xff: 0x157ffe80, 0x01: 0x01000200} {
			if words[place] != want {
				t.Errorf("%s[%02X]: %08X, not %08X", table.name, place, words[place], want)
			}
		}
		for v, word := range words {
			want, last := flags(""), v%16
			if v > 127 {
				want = flags("N")
			} else if v == 0 {
				want = flags("Z")
			}
			if last >= 10 {
				last += 6
			}
			if part(word, 0, 8) != int(want) || part(word, 8, 8) != 2*v%256 || part(word, 16, 8) != v/2 || part(word, 24, 8) != last {
				t.Errorf("%s[%02X]: %08X", table.name, v, word)
			}
		}
	}
}

// P2401
func TestWordsIsRule(t *testing.T) {
	if !slices.Equal(alu.Words(), alu.Rule()) {
		t.Errorf("Words is\n%08X, Rule\n%08X", alu.Words(), alu.Rule())
	}
}

func TestTheTableIsWhatTheCallsTell(t *testing.T) {
	for _, table := range tables {
		for v, word := range table.make() {
			b := byte(v)
			up, _ := alu.Asl(b, 0)
			down, _ := alu.Lsr(b, 0)
			digit, _ := alu.Add(b%16, 0, flags("D"))
			want := []int{int(alu.Flags(b, 0)), int(up), int(down), int(digit)}
			if got := []int{part(word, 0, 8), part(word, 8, 8), part(word, 16, 8), part(word, 24, 8)}; !slices.Equal(got, want) {
				t.Errorf("%s[%02X]: %02X, the calls tell %02X", table.name, v, got, want)
			}
		}
	}
}

// Rule 4: nobody sees what the caller writes into what was handed out, into its spare room neither.
func TestTablesAreTheCallers(t *testing.T) {
	for _, table := range tables {
		first, second := table.make(), table.make()
		want := slices.Clone(first)
		full := first[:cap(first)]
		for i := range full {
			full[i] = 77
		}
		_ = append(first, 78, 79)
		for _, other := range tables {
			if got := other.make(); !slices.Equal(second, want) || !slices.Equal(got, want) {
				t.Errorf("%s: what the caller wrote into %s is seen", other.name, table.name)
			}
		}
		if alu.Flags(0, 0) != flags("Z") || alu.Flags(0x9f, 0) != flags("N") {
			t.Errorf("Flags hangs on what the caller wrote into %s", table.name)
		}
	}
}
