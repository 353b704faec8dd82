package cpu_test

import (
	"fmt"
	"strings"
	"testing"

	"orrery/modes"
)

// chart: the instructions as sheets of the 6502 have them: way, opcode, cycles, and + where a page that is crossed costs one more.
const chart = `
ADC imm 69 2, zp 65 3, zpx 75 4, abs 6D 4, abx 7D 4+, aby 79 4+, inx 61 6, iny 71 5+
AND imm 29 2, zp 25 3, zpx 35 4, abs 2D 4, abx 3D 4+, aby 39 4+, inx 21 6, iny 31 5+
ASL acc 0A 2, zp 06 5, zpx 16 6, abs 0E 6, abx 1E 7
BCC rel 90 2
BCS rel B0 2
BEQ rel F0 2
BIT zp 24 3, abs 2C 4
BMI rel 30 2
BNE rel D0 2
BPL rel 10 2
BRK imp 00 7
BVC rel 50 2
BVS rel 70 2
CLC imp 18 2
CLD imp D8 2
CLI imp 58 2
CLV imp B8 2
CMP imm C9 2, zp C5 3, zpx D5 4, abs CD 4, abx DD 4+, aby D9 4+, inx C1 6, iny D1 5+
CPX imm E0 2, zp E4 3, abs EC 4
CPY imm C0 2, zp C4 3, abs CC 4
DEC zp C6 5, zpx D6 6, abs CE 6, abx DE 7
DEX imp CA 2
DEY imp 88 2
EOR imm 49 2, zp 45 3, zpx 55 4, abs 4D 4, abx 5D 4+, aby 59 4+, inx 41 6, iny 51 5+
INC zp E6 5, zpx F6 6, abs EE 6, abx FE 7
INX imp E8 2
INY imp C8 2
JMP abs 4C 3, ind 6C 5
JSR abs 20 6
LDA imm A9 2, zp A5 3, zpx B5 4, abs AD 4, abx BD 4+, aby B9 4+, inx A1 6, iny B1 5+
LDX imm A2 2, zp A6 3, zpy B6 4, abs AE 4, aby BE 4+
LDY imm A0 2, zp A4 3, zpx B4 4, abs AC 4, abx BC 4+
LSR acc 4A 2, zp 46 5, zpx 56 6, abs 4E 6, abx 5E 7
NOP imp EA 2
ORA imm 09 2, zp 05 3, zpx 15 4, abs 0D 4, abx 1D 4+, aby 19 4+, inx 01 6, iny 11 5+
PHA imp 48 3
PHP imp 08 3
PLA imp 68 4
PLP imp 28 4
ROL acc 2A 2, zp 26 5, zpx 36 6, abs 2E 6, abx 3E 7
ROR acc 6A 2, zp 66 5, zpx 76 6, abs 6E 6, abx 7E 7
RTI imp 40 6
RTS imp 60 6
SBC imm E9 2, zp E5 3, zpx F5 4, abs ED 4, abx FD 4+, aby F9 4+, inx E1 6, iny F1 5+
SEC imp 38 2
SED imp F8 2
SEI imp 78 2
STA zp 85 3, zpx 95 4, abs 8D 4, abx 9D 5, aby 99 5, inx 81 6, iny 91 6
STX zp 86 3, zpy 96 4, abs 8E 4
STY zp 84 3, zpx 94 4, abs 8C 4
TAX imp AA 2
TAY imp A8 2
TSX imp BA 2
TXA imp 8A 2
TXS imp 9A 2
TYA imp 98 2
`

// row: one instruction of the chart.
type row struct {
	name, way string
	op        byte
	cycles    int
	more      bool // one, where a page is crossed
}

// size: the bytes of an instruction of each way.
var size = map[string]int{"imp": 1, "acc": 1, "imm": 2, "zp": 2, "zpx": 2, "zpy": 2, "abs": 3, "abx": 3, "aby": 3, "ind": 3, "inx": 2, "iny": 2, "rel": 2}

// modeOf: what package modes calls a way.
var modeOf = map[string]int{
	"imp": modes.Imp, "acc": modes.Acc, "imm": modes.Imm, "zp": modes.Zp, "zpx": modes.Zpx, "zpy": modes.Zpy, "abs": modes.Abs,
	"abx": modes.Abx, "aby": modes.Aby, "ind": modes.Ind, "inx": modes.Inx, "iny": modes.Iny, "rel": modes.Rel,
}

// rows: of the chart, by their opcodes.
var rows = readChart()

func readChart() map[byte]row {
	all := map[byte]row{}
	for _, line := range strings.Split(strings.TrimSpace(chart), "\n") {
		for _, part := range strings.Split(line[4:], ", ") {
			r := row{name: line[:3], more: strings.HasSuffix(part, "+")}
			if n, err := fmt.Sscanf(part, "%s %X %d", &r.way, &r.op, &r.cycles); n != 3 || err != nil {
				panic(part)
			}
			if _, ok := all[r.op]; ok || size[r.way] == 0 {
				panic(part)
			}
			all[r.op] = r
		}
	}
	return all
}

func TestChartIsWhole(t *testing.T) {
	is(t, "instructions", len(rows), 151)
}
