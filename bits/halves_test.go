package bits

import "testing"

// told: what a word tells at a place that has so many bits of room.
func told(word uint32, at, size int) uint32 { return word >> at & (1<<size - 1) }

// upperPlace: a place in the upper half, told with 1 put to it, as a place in the byte; 0 stays 0, since it is none.
func upperPlace(n uint32) uint32 {
	if n == 0 {
		return 0
	}
	return n + 4
}

// The variable halves is held against Rule by itself, whichever call reads it.
func TestHalvesAreTheRule(t *testing.T) {
	rule := Rule()
	if len(halves) != 16 || len(rule) != 256 {
		t.Fatalf("%d halves, %d words of the rule", len(halves), len(rule))
	}
	for b, word := range rule {
		lo, hi := halves[b%16], halves[b/16]
		low := told(lo, 16, 4)
		if low == 0 {
			low = upperPlace(told(hi, 16, 4))
		}
		for _, c := range []struct {
			what      string
			got, want uint32
		}{
			{"Ones", told(lo, 0, 4) + told(hi, 0, 4), told(word, 0, 4)},
			{"Parity", told(lo, 4, 1) ^ told(hi, 4, 1), told(word, 4, 1)},
			{"Reverse", told(lo, 8, 4)<<4 | told(hi, 8, 4), told(word, 8, 8)},
			{"Low", low, told(word, 16, 4)},
			{"High", max(told(lo, 20, 4), upperPlace(told(hi, 20, 4))), told(word, 20, 4)},
			{"Unpacked", told(lo, 24, 1) & told(hi, 24, 1), told(word, 24, 1)},
		} {
			if c.got != c.want {
				t.Errorf("of the byte %#x the halves tell %s %#x, the rule %#x", b, c.what, c.got, c.want)
			}
		}
		if got := wordOfHalves(byte(b)); got != word {
			t.Errorf("word %#x of the halves is %#x, of the rule %#x", b, got, word)
		}
	}
}

func TestHalvesAreTheFirstOfTheirBytes(t *testing.T) {
	const turned = 0xff << 8 // a half is turned round in four bits, a byte in eight
	for h, word := range halves {
		if rule := Rule()[h]; word&^turned != rule&^turned || word>>8&0xff != rule>>12&0xf {
			t.Errorf("the half %#x tells %#x, its byte %#x", h, word, rule)
		}
	}
}
