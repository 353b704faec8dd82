package modes_test

import (
	"fmt"
	"math"
	"slices"
	"testing"

	"orrery/api"
	"orrery/lexer"
	"orrery/modes"
)

// widths: of each mode, how many bytes hold its operand, as the operand is a number (a branch names a place).
var widths = [all]int{0, 0, 1, 1, 1, 1, 2, 2, 2, 2, 1, 1, 2}

func greatest(mode int) int { return 1<<(8*widths[mode]) - 1 }

var (
	tellingOperands = []int{math.MinInt, math.MinInt32, -65536, -32768, -256, -255, -128, -1, 0, 1, 15, 16, 127, 128, 254, 255, 256, 257, 0x1234, 0xabcd, 32767, 32768, 65534, 65535, 65536, 65537, 1 << 24, math.MaxInt32, math.MaxInt}
	tellingPlaces   = []int{0, 1, 2, 125, 126, 127, 128, 129, 255, 256, 0x1000, 32767, 32768, 65406, 65407, 65408, 65533, 65534, 65535}
	noPlaces        = []int{math.MinInt, math.MinInt32, -65536, -2, -1, 65536, 65537, 1 << 24, math.MaxInt32, math.MaxInt}
)

func wantBytes(t *testing.T, mode, operand, pc int, want ...byte) {
	t.Helper()
	if got, e := modes.Bytes(mode, operand, pc); !slices.Equal(got, want) || e != api.OK {
		t.Errorf("Bytes(%d, %#x, %#x) = % x, %v, not % x", mode, operand, pc, got, e, want)
	}
}

func wantNoBytes(t *testing.T, mode, operand, pc int, want api.Errno) {
	t.Helper()
	if got, e := modes.Bytes(mode, operand, pc); len(got) != 0 || e != want {
		t.Errorf("Bytes(%d, %d, %d) = % x, %v, not %v", mode, operand, pc, got, e, want)
	}
}

func wantOperand(t *testing.T, mode int, b []byte, pc, want int) {
	t.Helper()
	if got, e := modes.Operand(mode, b, pc); got != want || e != api.OK {
		t.Errorf("Operand(%d, % x, %#x) = %#x, %v, not %#x", mode, b, pc, got, e, want)
	}
}

func wantNoOperand(t *testing.T, mode int, b []byte, pc int, want api.Errno) {
	t.Helper()
	if got, e := modes.Operand(mode, b, pc); got != 0 || e != want {
		t.Errorf("Operand(%d, % x, %d) = %d, %v, not %v", mode, b, pc, got, e, want)
	}
}

func TestExamplesOfOperands(t *testing.T) {
	wantBytes(t, modes.Rel, 0x1000, 0x1000, 0xfe)
	wantNoBytes(t, modes.Rel, 0x1100, 0x1000, api.ErrBranch)
	wantBytes(t, modes.Abs, 0x1234, 0, 0x34, 0x12)
	wantBytes(t, modes.Rel, 0, 0xfffe, 0)
	wantOperand(t, modes.Rel, []byte{0xfe}, 0x1000, 0x1000)
	wantOperand(t, modes.Abs, []byte{0x34, 0x12}, 0, 0x1234)
}

// P1704: each mode but a branch, at each telling operand and place.
func TestBytes(t *testing.T) {
	for mode := modes.Imp; mode < modes.Rel; mode++ {
		for _, pc := range tellingPlaces {
			for _, operand := range tellingOperands {
				switch {
				case widths[mode] == 0:
					wantBytes(t, mode, operand, pc)
				case operand < 0 || operand > greatest(mode):
					wantNoBytes(t, mode, operand, pc, api.ErrRange)
				case widths[mode] == 1:
					wantBytes(t, mode, operand, pc, byte(operand))
				default:
					wantBytes(t, mode, operand, pc, byte(operand%256), byte(operand/256))
				}
			}
		}
	}
}

// Which of several faults is told first.
func TestFaultsOfBytesInOrder(t *testing.T) {
	for _, operand := range tellingOperands {
		for _, mode := range noModes {
			for _, pc := range append(slices.Clone(noPlaces), tellingPlaces...) {
				wantNoBytes(t, mode, operand, pc, api.ErrMode)
				wantNoOperand(t, mode, nil, pc, api.ErrMode)
				wantNoOperand(t, mode, []byte{1, 2, 3, 4}, pc, api.ErrMode)
			}
		}
		for mode := range all {
			for _, pc := range noPlaces {
				wantNoBytes(t, mode, operand, pc, api.ErrArg)
				wantNoOperand(t, mode, make([]byte, modes.Length(mode)-1), pc, api.ErrArg)
				wantNoOperand(t, mode, nil, pc, api.ErrArg)
			}
		}
	}
}

// P1704: branches, the ways told one by one.
func TestBranches(t *testing.T) {
	for way, want := range map[int]byte{-128: 0x80, -127: 0x81, -2: 0xfe, -1: 0xff, 0: 0, 1: 1, 126: 0x7e, 127: 0x7f} {
		for _, pc := range tellingPlaces {
			place := (pc + 2 + way + 65536) % 65536
			wantBytes(t, modes.Rel, place, pc, want)
			wantOperand(t, modes.Rel, []byte{want}, pc, place)
		}
	}
	for _, way := range []int{-32768, -256, -130, -129, 128, 129, 255, 256, 257, 32767} {
		for _, pc := range tellingPlaces {
			wantNoBytes(t, modes.Rel, (pc+2+way+65536)%65536, pc, api.ErrBranch)
		}
	}
	for _, pc := range tellingPlaces {
		for _, operand := range tellingOperands {
			if operand < 0 || operand > 65535 {
				wantNoBytes(t, modes.Rel, operand, pc, api.ErrRange)
			}
		}
	}
	wantBytes(t, modes.Rel, 65535, 0, 0xfd)
	wantBytes(t, modes.Rel, 65410, 0, 0x80)
	wantNoBytes(t, modes.Rel, 65409, 0, api.ErrBranch)
	wantBytes(t, modes.Rel, 0, 65535, 0xff)
	wantBytes(t, modes.Rel, 128, 65535, 127)
	wantNoBytes(t, modes.Rel, 129, 65535, api.ErrBranch)
}

// All places from a few: those that can be come to are just those of the 256 ways.
func TestBranchesToAllPlaces(t *testing.T) {
	for _, pc := range tellingPlaces {
		ways := map[int]int{}
		for way := range 256 {
			place, e := modes.Operand(modes.Rel, []byte{byte(way)}, pc)
			if e != api.OK || place < 0 || place > 65535 {
				t.Fatalf("Operand of a branch by %d from %d is %d, %v", way, pc, place, e)
			}
			ways[place] = way
		}
		if len(ways) != 256 {
			t.Fatalf("from %d: %d places", pc, len(ways))
		}
		for place := range 65536 {
			b, e := modes.Bytes(modes.Rel, place, pc)
			way, near := ways[place]
			if near && (e != api.OK || len(b) != 1 || int(b[0]) != way) || !near && (e != api.ErrBranch || len(b) != 0) {
				t.Fatalf("Bytes of a branch to %d from %d is %v, %v", place, pc, b, e)
			}
		}
	}
}

// P1704: each number of bytes, from none on.
func TestOperandOfSoManyBytes(t *testing.T) {
	given := []byte{0x81, 0x92, 0xa3, 0xb4}
	for mode := range all {
		for n := range len(given) + 1 {
			switch {
			case n != modes.Length(mode)-1:
				wantNoOperand(t, mode, given[:n], 100, api.ErrArg)
			case n == 0:
				wantOperand(t, mode, nil, 100, 0)
				wantOperand(t, mode, []byte{}, 100, 0)
				wantOperand(t, mode, given[:0], 65535, 0)
			case mode == modes.Rel:
				wantOperand(t, mode, given[:1], 100, 65536+102-127)
			case n == 1:
				wantOperand(t, mode, given[:1], 100, 0x81)
			default:
				wantOperand(t, mode, given[:2], 100, 0x9281)
			}
		}
		if mode > modes.Acc {
			wantNoOperand(t, mode, nil, 0, api.ErrArg)
			wantNoOperand(t, mode, make([]byte, 1000), 0, api.ErrArg)
		}
	}
}

// P1705: each mode, as the chapter writes it.
func TestShow(t *testing.T) {
	forms := [all]string{"", "A", "#$%s", "$%s", "$%s,X", "$%s,Y", "$%s", "$%s,X", "$%s,Y", "($%s)", "($%s,X)", "($%s),Y", "$%s"}
	for mode, form := range forms {
		for _, operand := range tellingOperands {
			want, e := form, api.OK
			switch {
			case widths[mode] == 0:
			case operand < 0 || operand > greatest(mode):
				want, e = "", api.ErrRange
			default:
				want = fmt.Sprintf(form, fmt.Sprintf("%0*X", 2*widths[mode], operand))
			}
			if got, gotE := modes.Show(mode, operand); got != want || gotE != e {
				t.Errorf("Show(%d, %d) = %q, %v, not %q, %v", mode, operand, got, gotE, want, e)
			}
		}
	}
	for _, mode := range noModes {
		for _, operand := range tellingOperands {
			if got, e := modes.Show(mode, operand); got != "" || e != api.ErrMode {
				t.Errorf("Show(%d, %d) = %q, %v", mode, operand, got, e)
			}
		}
	}
}

func TestExamplesOfShow(t *testing.T) {
	for want, c := range map[string][2]int{
		"": {modes.Imp, 5}, "A": {modes.Acc, -5}, "#$12": {modes.Imm, 0x12}, "$12": {modes.Zp, 0x12}, "$12,X": {modes.Zpx, 0x12}, "$12,Y": {modes.Zpy, 0x12},
		"$1234": {modes.Abs, 0x1234}, "$1234,X": {modes.Abx, 0x1234}, "$1234,Y": {modes.Aby, 0x1234}, "($1234)": {modes.Ind, 0x1234},
		"($12,X)": {modes.Inx, 0x12}, "($12),Y": {modes.Iny, 0x12}, "$00EF": {modes.Rel, 0xef}, "$ABCD": {modes.Rel, 0xabcd}, "$0000": {modes.Abs, 0}, "$0A": {modes.Zp, 10},
	} {
		if got, e := modes.Show(c[0], c[1]); got != want || e != api.OK {
			t.Errorf("Show(%d, %d) = %q, %v, not %q", c[0], c[1], got, e, want)
		}
	}
	if got, e := modes.Show(modes.Zp, 256); got != "" || e != api.ErrRange {
		t.Errorf("Show(Zp, 256) = %q, %v", got, e)
	}
}

// P1707: each operand that can be, from a few places.
func TestOperandOfBytesIsTheOperand(t *testing.T) {
	for mode := range all {
		for _, pc := range []int{0, 0x1000, 65535} {
			for operand := range greatest(mode) + 1 {
				b, e := modes.Bytes(mode, operand, pc)
				if mode == modes.Rel && e == api.ErrBranch {
					continue
				}
				got, f := modes.Operand(mode, b, pc)
				if e != api.OK || f != api.OK || got != operand || len(b) != modes.Length(mode)-1 {
					t.Fatalf("mode %d at %d: %d is % x, %v, and back %d, %v", mode, pc, operand, b, e, got, f)
				}
			}
		}
	}
}

// P1707: each operand that can be.
func TestSplitOfShownIsTheMode(t *testing.T) {
	for mode := range all {
		for operand := range greatest(mode) + 1 {
			shown, e := modes.Show(mode, operand)
			list, _, f := lexer.Lex(shown)
			form, place, g := modes.Split(list)
			if e != api.OK || f != api.OK || g != api.OK || place != 0 || !slices.Contains(modes.May(form.Kind), mode) {
				t.Fatalf("mode %d of %d: %q is %+v", mode, operand, shown, form)
			}
			if widths[mode] == 0 && len(form.Expr) != 0 {
				t.Fatalf("mode %d: %q has the tokens %+v", mode, shown, form.Expr)
			}
			if widths[mode] > 0 && (len(form.Expr) != 1 || form.Expr[0].Kind != lexer.Number || form.Expr[0].Value != operand) {
				t.Fatalf("mode %d of %d: %q has the tokens %+v", mode, operand, shown, form.Expr)
			}
		}
	}
}
