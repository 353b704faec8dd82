package sha

import (
	"testing"

	"orrery/primes"
)

// The variable roots is held by itself against primes.Constants, at all words of all kinds.
func TestRootsAreTheConstants(t *testing.T) {
	upper := func(w uint64) uint64 { return w >> 32 }
	lower := func(w uint64) uint64 { return w & 0xffffffff }
	all := func(w uint64) uint64 { return w }
	for _, c := range []struct {
		kind, rounds, first int
		ofCube, ofSquare    func(w uint64) uint64
	}{
		{224, 64, 8, upper, lower},
		{256, 64, 0, upper, upper},
		{384, 80, 8, all, all},
		{512, 80, 0, all, all},
	} {
		k, h, _ := primes.Constants(c.kind)
		if len(k) != c.rounds || len(h) != 8 {
			t.Fatalf("the kind %d has %d and %d constants", c.kind, len(k), len(h))
		}
		for i, want := range k {
			if got := c.ofCube(roots.cubes[i]); got != want {
				t.Errorf("%d: k[%d] is %x, not %x", c.kind, i, got, want)
			}
		}
		for i, want := range h {
			if got := c.ofSquare(roots.squares[c.first+i]); got != want {
				t.Errorf("%d: h[%d] is %x, not %x", c.kind, i, got, want)
			}
		}
	}
}
