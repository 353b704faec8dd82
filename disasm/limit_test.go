package disasm_test

import (
	"slices"
	"strings"
	"testing"

	"orrery/api"
	"orrery/disasm"
)

// branches: n branches to themselves, so that each has a label.
func branches(n int) []byte { return slices.Repeat([]byte{0xd0, 0xfe}, n) }

// F20.3, P2003: MaxLabels places with a label, and one more; in one segment and in two.
func TestMaxLabels(t *testing.T) {
	full := segments{at(0x1000, branches(api.MaxLabels)...)}
	got, e := disasm.Source(full, []int{0x1000})
	if e != api.OK || strings.Count(got, ": BNE L") != api.MaxLabels {
		t.Fatalf("%d labels, %v", strings.Count(got, ":"), e)
	}
	wantBack(t, full, got)
	more := segments{at(0x1000, branches(api.MaxLabels+1)...)}
	wantNoSource(t, "one more", more, []int{0x1000}, api.ErrBig)
	apart := append(full, at(0, branches(1)...))
	wantNoSource(t, "one more in another segment", apart, []int{0x1000, 0}, api.ErrBig)
	got, e = disasm.Source(apart, []int{0x1000}) // there the other is not come to
	if e != api.OK || strings.Count(got, ":") != api.MaxLabels {
		t.Errorf("%d labels, %v", strings.Count(got, ":"), e)
	}
}

// F20.3: places are counted, not targets: one that many go to, and ones without a label, count no more.
func TestOneLabelOfMany(t *testing.T) {
	b := slices.Repeat([]byte{0x20, 0x00, 0x00}, 5000)
	got, e := disasm.Source(segments{at(0, b...)}, []int{0})
	if e != api.OK || strings.Count(got, ":") != 1 || strings.Count(got, "JSR L0000\n") != 5000 {
		t.Errorf("%d labels, %v", strings.Count(got, ":"), e)
	}
	wantBack(t, segments{at(0, b...)}, got)
	var away []byte
	for i := range 5000 {
		away = append(away, 0x20, byte(i), byte(0x80+i>>8)) // 5000 unlike targets, all of them in no segment
	}
	got, e = disasm.Source(segments{at(0, away...)}, []int{0})
	if e != api.OK || strings.Count(got, ":") != 0 || strings.Count(got, "\n") != 5001 {
		t.Errorf("%d labels, %v", strings.Count(got, ":"), e)
	}
}

// F20.3: the longest texts that there are stay below MaxText: no place is told by more than 12 bytes, but for its label.
func TestTheGreatestText(t *testing.T) {
	whole := segments{at(0, make([]byte, 65536)...)}
	got, e := disasm.Source(whole, nil)
	if len(got) != 10+12*65536 || e != api.OK {
		t.Fatalf("%d bytes, %v", len(got), e)
	}
	wantBack(t, whole, got)
	var apart segments
	for place := 65534; place >= 0; place -= 2 {
		apart = append(apart, at(place, 0x60))
	}
	got, e = disasm.Source(apart, []int{0, 65534, 65535})
	if len(got) != 32768*(10+12)-2*6 || e != api.OK {
		t.Errorf("%d bytes, %v", len(got), e)
	}
}

// F20.3: many entries and many segments at once.
func TestManyOfBoth(t *testing.T) {
	var l segments
	var entries []int
	for place := range 65536 {
		l = append(l, at(65535-place, 0xea), at(place))
		entries = append(entries, place, 65535-place)
	}
	got, e := disasm.Source(l, entries)
	if want := "* = $0000\n" + strings.Repeat("  NOP\n", 65536); got != want || e != api.OK {
		t.Errorf("%d bytes, %v", len(got), e)
	}
}
