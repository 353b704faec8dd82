package opcode_test

import (
	"fmt"
	"math"
	"slices"
	"strings"
	"testing"

	"orrery/modes"
	"orrery/opcode"
)

func wantOf(t *testing.T, op byte, name string, mode int, ok bool) {
	t.Helper()
	if gotName, gotMode, gotOk := opcode.Of(op); gotName != name || gotMode != mode || gotOk != ok {
		t.Errorf("Of(%02X) = %q, %d, %v; not %q, %d, %v", op, gotName, gotMode, gotOk, name, mode, ok)
	}
}

func wantCode(t *testing.T, name string, mode int, op byte, ok bool) {
	t.Helper()
	if got, gotOk := opcode.Code(name, mode); got != op || gotOk != ok {
		t.Errorf("Code(%q, %d) = %02X, %v; not %02X, %v", name, mode, got, gotOk, op, ok)
	}
}

func wantCycles(t *testing.T, op byte, base, extra int, ok bool) {
	t.Helper()
	if gotBase, gotExtra, gotOk := opcode.Cycles(op); gotBase != base || gotExtra != extra || gotOk != ok {
		t.Errorf("Cycles(%02X) = %d, %d, %v; not %d, %d, %v", op, gotBase, gotExtra, gotOk, base, extra, ok)
	}
}

func TestExamples(t *testing.T) {
	wantOf(t, 0xa9, "LDA", modes.Imm, true)
	wantOf(t, 0x6c, "JMP", modes.Ind, true)
	wantOf(t, 0x02, "", 0, false)
	wantOf(t, 0x00, "BRK", modes.Imp, true)
	wantCode(t, "STX", modes.Zpy, 0x96, true)
	wantCode(t, "STA", modes.Imm, 0, false)
	wantCode(t, "lda", modes.Imm, 0, false)
	wantCycles(t, 0xbd, 4, 1, true)
	wantCycles(t, 0x9d, 5, 0, true)
	wantCycles(t, 0xfe, 7, 0, true)
	wantCycles(t, 0xd0, 2, 0, true)
	if got := opcode.Modes("LDX"); !slices.Equal(got, []int{modes.Imm, modes.Zp, modes.Zpy, modes.Abs, modes.Aby}) {
		t.Errorf("Modes of LDX: %v", got)
	}
	if got := opcode.Class("LDX"); got != opcode.Reads {
		t.Errorf("Class of LDX: %d", got)
	}
	for name, want := range map[string]int{"ADC": 0, "TYA": 55} {
		if got, ok := opcode.Number(name); got != want || !ok {
			t.Errorf("Number(%s) = %d, %v", name, got, ok)
		}
	}
}

// The exceptions that the words name, byte by byte.
func TestExceptionsOfTheFields(t *testing.T) {
	wantOf(t, 0x89, "", 0, false)           // STA has no Imm
	wantOf(t, 0x9e, "", 0, false)           // STX has no Aby
	wantOf(t, 0xa2, "LDX", modes.Imm, true) // alone with c = 2 and b = 0
	wantOf(t, 0x4c, "JMP", modes.Abs, true)
	wantOf(t, 0x6c, "JMP", modes.Ind, true)
	wantOf(t, 0x96, "STX", modes.Zpy, true)
	wantOf(t, 0xb6, "LDX", modes.Zpy, true)
	wantOf(t, 0xbe, "LDX", modes.Aby, true)
	wantOf(t, 0x94, "STY", modes.Zpx, true)
	wantOf(t, 0x9c, "", 0, false) // STY has no Abx
	wantOf(t, 0x9a, "TXS", modes.Imp, true)
	wantOf(t, 0xba, "TSX", modes.Imp, true)
	wantOf(t, 0x20, "JSR", modes.Abs, true)
	for _, op := range []byte{
		0x80,                   // c = 0, b = 0
		0x04, 0x44, 0x64, 0x0c, // c = 0, b = 1 and 3
		0x14, 0x34, 0x54, 0x74, 0xd4, 0xf4, // c = 0, b = 5
		0x1c, 0x3c, 0x5c, 0x7c, 0xdc, 0xfc, // c = 0, b = 7
		0x02, 0x22, 0x42, 0x62, 0x82, 0xc2, 0xe2, // c = 2, b = 0
		0x12, 0x32, 0x52, 0x72, 0x92, 0xb2, 0xd2, 0xf2, // c = 2, b = 4
		0x1a, 0x3a, 0x5a, 0x7a, 0xda, 0xfa, // c = 2, b = 6
	} {
		wantOf(t, op, "", 0, false)
		wantCycles(t, op, 0, 0, false)
	}
	for op := 3; op < 256; op += 4 {
		wantOf(t, byte(op), "", 0, false)
		wantCycles(t, byte(op), 0, 0, false)
	}
}

// F18.2: each of the 256 bytes.
func TestOfAndCyclesOfEachByte(t *testing.T) {
	for op, c := range cells(t) {
		wantOf(t, byte(op), c.name, c.mode, c.name != "")
		wantCycles(t, byte(op), c.base, c.extra, c.name != "")
	}
}

// F18.2, P1802: each mnemonic with each mode, and with what is none.
func TestCodeOfEachMnemonicAndMode(t *testing.T) {
	type pair struct {
		name string
		mode int
	}
	codes := map[pair]byte{}
	for op, c := range cells(t) {
		if c.name != "" {
			codes[pair{c.name, c.mode}] = byte(op)
		}
	}
	for _, name := range inOrder {
		for mode := -1; mode <= 13; mode++ {
			op, has := codes[pair{name, mode}]
			wantCode(t, name, mode, op, has)
		}
		for _, mode := range []int{math.MinInt, -256, -13, 14, 16, 255, 256, 258, 1 << 32, math.MaxInt} {
			wantCode(t, name, mode, 0, false)
		}
	}
	for _, name := range noNames() {
		for mode := -1; mode <= 13; mode++ {
			wantCode(t, name, mode, 0, false)
		}
	}
}

// P1802.
func TestBothWays(t *testing.T) {
	seen := map[string]int{}
	for op := range 256 {
		name, mode, ok := opcode.Of(byte(op))
		if !ok {
			continue
		}
		if got, has := opcode.Code(name, mode); got != byte(op) || !has {
			t.Errorf("%02X is %s %d, whose Code is %02X, %v", op, name, mode, got, has)
		}
		both := fmt.Sprint(name, mode)
		if other, has := seen[both]; has {
			t.Errorf("%02X and %02X are both %s", other, op, both)
		}
		seen[both] = op
	}
	for _, name := range opcode.Mnemonics() {
		for mode := range 13 {
			if op, ok := opcode.Code(name, mode); ok {
				wantOf(t, op, name, mode, true)
			}
		}
	}
}

// P1803.
func TestCountOfInstructions(t *testing.T) {
	count, names := 0, map[string]int{}
	for op := range 256 {
		if name, _, ok := opcode.Of(byte(op)); ok {
			count++
			names[name]++
		}
	}
	if count != 151 || len(names) != 56 || len(opcode.Mnemonics()) != 56 {
		t.Errorf("%d instructions of %d mnemonics; Mnemonics has %d", count, len(names), len(opcode.Mnemonics()))
	}
}

// F18.2.
func TestMnemonicsInOrder(t *testing.T) {
	got := opcode.Mnemonics()
	if !slices.Equal(got, inOrder) || !slices.IsSorted(got) {
		t.Errorf("Mnemonics is %v", got)
	}
	for want, name := range inOrder {
		if n, ok := opcode.Number(name); n != want || !ok {
			t.Errorf("Number(%s) = %d, %v; not %d", name, n, ok, want)
		}
		if !opcode.Known(name) {
			t.Errorf("%s is not known", name)
		}
	}
}

func wantUnknown(t *testing.T, text string) {
	t.Helper()
	number, ok := opcode.Number(text)
	if number != 0 || ok || opcode.Known(text) || opcode.Class(text) != 0 || len(opcode.Modes(text)) != 0 {
		t.Errorf("%q: Number %d, %v, Known %v, Class %d, Modes %v", text, number, ok, opcode.Known(text), opcode.Class(text), opcode.Modes(text))
	}
}

// F18.2: nothing else is a mnemonic, be it of a mnemonic's hash.
func TestWhatIsNoMnemonic(t *testing.T) {
	for _, text := range noNames() {
		wantUnknown(t, text)
	}
	known := 0
	capitals(func(text string) {
		if slices.Contains(inOrder, text) {
			known++
			return
		}
		wantUnknown(t, text)
		wantCode(t, text, modes.Imp, 0, false)
	})
	if known != 56 {
		t.Errorf("%d mnemonics among the texts of three letters", known)
	}
}

// F18.2: the class of each mnemonic.
func TestClasses(t *testing.T) {
	if opcode.Reads != 1 || opcode.Writes != 2 || opcode.Changes != 3 || opcode.Branches != 4 || opcode.Others != 5 {
		t.Error("the classes have other numbers")
	}
	told := map[string]int{}
	for i, names := range []string{
		"ORA AND EOR ADC LDA CMP SBC LDX LDY CPX CPY BIT",
		"STA STX STY",
		"ASL ROL LSR ROR DEC INC",
		"BPL BMI BVC BVS BCC BCS BNE BEQ",
		"BRK JSR RTI RTS JMP PHP PLP PHA PLA DEY TAY INY INX CLC SEC CLI SEI TYA CLV CLD SED TXA TAX DEX NOP TXS TSX",
	} {
		for _, name := range strings.Fields(names) {
			told[name] = i + 1
		}
	}
	if len(told) != 56 {
		t.Fatalf("%d mnemonics are told", len(told))
	}
	for _, name := range inOrder {
		if got := opcode.Class(name); got != told[name] {
			t.Errorf("Class(%s) = %d, not %d", name, got, told[name])
		}
	}
}

// F18.2: the modes of each mnemonic, rising.
func TestModes(t *testing.T) {
	want := map[string][]int{}
	for _, c := range cells(t) {
		if c.name != "" {
			want[c.name] = append(want[c.name], c.mode)
		}
	}
	for _, name := range inOrder {
		slices.Sort(want[name])
		if got := opcode.Modes(name); !slices.Equal(got, want[name]) {
			t.Errorf("Modes(%s) = %v, not %v", name, got, want[name])
		}
	}
}

// P1805.
func TestNarrowAndWideOfEachMnemonic(t *testing.T) {
	var alone []string
	for _, name := range opcode.Mnemonics() {
		for _, mode := range opcode.Modes(name) {
			if wide, ok := modes.Wide(mode); ok && !slices.Contains(opcode.Modes(name), wide) {
				alone = append(alone, name+" "+modes.Name(mode))
			}
		}
	}
	if !slices.Equal(alone, []string{"STX zpy", "STY zpx"}) {
		t.Errorf("without their wide ones: %v", alone)
	}
	wantCode(t, "STX", modes.Zpy, 0x96, true)
	wantCode(t, "STX", modes.Aby, 0, false)
	wantCode(t, "STY", modes.Zpx, 0x94, true)
	wantCode(t, "STY", modes.Abx, 0, false)
}

// P1805.
func TestBranchesAloneHaveRel(t *testing.T) {
	count := 0
	for _, name := range opcode.Mnemonics() {
		list := opcode.Modes(name)
		isBranch := opcode.Class(name) == opcode.Branches
		if isBranch {
			count++
		}
		if slices.Contains(list, modes.Rel) != isBranch || isBranch && len(list) != 1 {
			t.Errorf("%s, of class %d, has the modes %v", name, opcode.Class(name), list)
		}
	}
	if count != 8 {
		t.Errorf("%d branches", count)
	}
}
