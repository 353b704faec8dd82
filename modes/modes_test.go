package modes_test

import (
	"math"
	"slices"
	"strings"
	"testing"

	"orrery/modes"
)

const all = 13 // modes

// noModes: numbers that are none.
var noModes = []int{-1, 13, 14, 16, 29, 255, 256, -13, math.MinInt, math.MaxInt}

func TestModesAndKindsAreCounted(t *testing.T) {
	for want, got := range []int{modes.Imp, modes.Acc, modes.Imm, modes.Zp, modes.Zpx, modes.Zpy, modes.Abs, modes.Abx, modes.Aby, modes.Ind, modes.Inx, modes.Iny, modes.Rel} {
		if got != want {
			t.Errorf("mode %d is %d", want, got)
		}
	}
	for want, got := range []int{modes.None, modes.OfA, modes.Sharp, modes.Plain, modes.WithX, modes.WithY, modes.Paren, modes.ParenX, modes.ParenY} {
		if got != want {
			t.Errorf("kind %d is %d", want, got)
		}
	}
}

// P1701, of each mode, and of what is none.
func TestLength(t *testing.T) {
	for mode, want := range []int{1, 1, 2, 2, 2, 2, 3, 3, 3, 3, 2, 2, 2} {
		if got := modes.Length(mode); got != want {
			t.Errorf("Length(%d) = %d, not %d", mode, got, want)
		}
	}
	for _, mode := range noModes {
		if got := modes.Length(mode); got != 0 {
			t.Errorf("Length(%d) = %d", mode, got)
		}
	}
}

// P1701, of each name.
func TestNameAndFind(t *testing.T) {
	names := strings.Fields("imp acc imm zp zpx zpy abs abx aby ind inx iny rel")
	for mode, name := range names {
		if got := modes.Name(mode); got != name {
			t.Errorf("Name(%d) = %q, not %q", mode, got, name)
		}
		if got, ok := modes.Find(name); got != mode || !ok {
			t.Errorf("Find(%q) = %d, %v", name, got, ok)
		}
	}
	for _, mode := range noModes {
		if got := modes.Name(mode); got != "" {
			t.Errorf("Name(%d) = %q", mode, got)
		}
	}
}

func TestFindOfNoName(t *testing.T) {
	list := []string{"", " ", "i", "im", "z", "zpxy", "zpz", "zp ", " zp", "imp\x00", "0", "12", "abs,x", "none", "ofa", "\xff"}
	for mode := range all {
		name := modes.Name(mode)
		list = append(list, strings.ToUpper(name), strings.ToUpper(name[:1])+name[1:], name+name, name+" ", name+"a", name[1:])
	}
	for _, name := range list {
		if mode, ok := modes.Find(name); mode != 0 || ok {
			t.Errorf("Find(%q) = %d, %v", name, mode, ok)
		}
	}
}

// P1703, of each kind, and of what is none.
func TestMay(t *testing.T) {
	for kind, want := range [][]int{
		{modes.Imp},
		{modes.Acc},
		{modes.Imm},
		{modes.Zp, modes.Abs, modes.Rel},
		{modes.Zpx, modes.Abx},
		{modes.Zpy, modes.Aby},
		{modes.Ind},
		{modes.Inx},
		{modes.Iny},
	} {
		if got := modes.May(kind); !slices.Equal(got, want) {
			t.Errorf("May(%d) = %v, not %v", kind, got, want)
		}
	}
	for _, kind := range []int{-1, 9, 10, 11, 12, 13, 16, 256, -9, math.MinInt, math.MaxInt} {
		if got := modes.May(kind); len(got) != 0 {
			t.Errorf("May(%d) = %v", kind, got)
		}
	}
}

// P1703, of each mode, and of what is none.
func TestNarrowAndWide(t *testing.T) {
	pairs := []struct{ narrow, wide int }{{modes.Zp, modes.Abs}, {modes.Zpx, modes.Abx}, {modes.Zpy, modes.Aby}}
	hasNarrow, hasWide := map[int]int{}, map[int]int{}
	for _, p := range pairs {
		hasNarrow[p.wide] = p.narrow
		hasWide[p.narrow] = p.wide
	}
	list := slices.Clone(noModes)
	for mode := range all {
		list = append(list, mode)
	}
	for _, mode := range list {
		want, has := hasNarrow[mode]
		if got, ok := modes.Narrow(mode); got != want || ok != has {
			t.Errorf("Narrow(%d) = %d, %v, not %d, %v", mode, got, ok, want, has)
		}
		want, has = hasWide[mode]
		if got, ok := modes.Wide(mode); got != want || ok != has {
			t.Errorf("Wide(%d) = %d, %v, not %d, %v", mode, got, ok, want, has)
		}
	}
}
