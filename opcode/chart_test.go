package opcode_test

import (
	"slices"
	"strings"
	"testing"

	"orrery/modes"
)

// chart: the opcodes written out by hand, byte by byte and not by their fields, sixteen to a line: mnemonic, mode, cycles, and + where a crossed page takes one more.
const chart = `
BRK/imp/7 ORA/inx/6  - - - ORA/zp/3  ASL/zp/5  - PHP/imp/3 ORA/imm/2  ASL/acc/2 - - ORA/abs/4  ASL/abs/6 -
BPL/rel/2 ORA/iny/5+ - - - ORA/zpx/4 ASL/zpx/6 - CLC/imp/2 ORA/aby/4+ - - - ORA/abx/4+ ASL/abx/7 -
JSR/abs/6 AND/inx/6  - - BIT/zp/3 AND/zp/3 ROL/zp/5 - PLP/imp/4 AND/imm/2 ROL/acc/2 - BIT/abs/4 AND/abs/4 ROL/abs/6 -
BMI/rel/2 AND/iny/5+ - - - AND/zpx/4 ROL/zpx/6 - SEC/imp/2 AND/aby/4+ - - - AND/abx/4+ ROL/abx/7 -
RTI/imp/6 EOR/inx/6  - - - EOR/zp/3  LSR/zp/5  - PHA/imp/3 EOR/imm/2  LSR/acc/2 - JMP/abs/3 EOR/abs/4 LSR/abs/6 -
BVC/rel/2 EOR/iny/5+ - - - EOR/zpx/4 LSR/zpx/6 - CLI/imp/2 EOR/aby/4+ - - - EOR/abx/4+ LSR/abx/7 -
RTS/imp/6 ADC/inx/6  - - - ADC/zp/3  ROR/zp/5  - PLA/imp/4 ADC/imm/2  ROR/acc/2 - JMP/ind/5 ADC/abs/4 ROR/abs/6 -
BVS/rel/2 ADC/iny/5+ - - - ADC/zpx/4 ROR/zpx/6 - SEI/imp/2 ADC/aby/4+ - - - ADC/abx/4+ ROR/abx/7 -
-         STA/inx/6  - - STY/zp/3  STA/zp/3  STX/zp/3  - DEY/imp/2 -         TXA/imp/2 - STY/abs/4 STA/abs/4 STX/abs/4 -
BCC/rel/2 STA/iny/6  - - STY/zpx/4 STA/zpx/4 STX/zpy/4 - TYA/imp/2 STA/aby/5 TXS/imp/2 - -         STA/abx/5 -         -
LDY/imm/2 LDA/inx/6  LDX/imm/2 - LDY/zp/3 LDA/zp/3 LDX/zp/3 - TAY/imp/2 LDA/imm/2 TAX/imp/2 - LDY/abs/4 LDA/abs/4 LDX/abs/4 -
BCS/rel/2 LDA/iny/5+ - - LDY/zpx/4 LDA/zpx/4 LDX/zpy/4 - CLV/imp/2 LDA/aby/4+ TSX/imp/2 - LDY/abx/4+ LDA/abx/4+ LDX/aby/4+ -
CPY/imm/2 CMP/inx/6  - - CPY/zp/3 CMP/zp/3 DEC/zp/5 - INY/imp/2 CMP/imm/2 DEX/imp/2 - CPY/abs/4 CMP/abs/4 DEC/abs/6 -
BNE/rel/2 CMP/iny/5+ - - - CMP/zpx/4 DEC/zpx/6 - CLD/imp/2 CMP/aby/4+ - - - CMP/abx/4+ DEC/abx/7 -
CPX/imm/2 SBC/inx/6  - - CPX/zp/3 SBC/zp/3 INC/zp/5 - INX/imp/2 SBC/imm/2 NOP/imp/2 - CPX/abs/4 SBC/abs/4 INC/abs/6 -
BEQ/rel/2 SBC/iny/5+ - - - SBC/zpx/4 INC/zpx/6 - SED/imp/2 SBC/aby/4+ - - - SBC/abx/4+ INC/abx/7 -
`

// cell: what the chart says of an opcode; the zero one is none.
type cell struct {
	name              string
	mode, base, extra int
}

func cells(t testing.TB) [256]cell {
	t.Helper()
	fields := strings.Fields(chart)
	if len(fields) != 256 {
		t.Fatalf("the chart has %d cells", len(fields))
	}
	var list [256]cell
	for op, field := range fields {
		if field == "-" {
			continue
		}
		parts := strings.Split(field, "/")
		mode, ok := modes.Find(parts[1])
		if !ok {
			t.Fatalf("the chart has %q", field)
		}
		list[op] = cell{name: parts[0], mode: mode, base: int(parts[2][0] - '0')}
		if strings.HasSuffix(field, "+") {
			list[op].extra = 1
		}
	}
	return list
}

// inOrder: the mnemonics, written out.
var inOrder = strings.Fields(`
ADC AND ASL BCC BCS BEQ BIT BMI BNE BPL BRK BVC BVS CLC CLD CLI CLV CMP CPX CPY
DEC DEX DEY EOR INC INX INY JMP JSR LDA LDX LDY LSR NOP ORA PHA PHP PLA PLP ROL
ROR RTI RTS SBC SEC SED SEI STA STX STY TAX TAY TSX TXA TXS TYA`)

// noNames: texts that are no mnemonics.
func noNames() []string {
	list := []string{
		"", " ", "A", "L", "LD", "AD", "LDAA", "LDA ", " LDA", "LDA\x00", "ADCAND", "ADC AND", "C A", "A A", "DC ",
		"lda", "Lda", "LDa", "lDA", "adc", "tya", "AAA", "ZZZ", "LAX", "SAX", "JAM", "BRA", "STZ", "PHX", "LDZ", "XYZ", "NON",
		"@DA", "L@A", "LD@", "[DA", "L[A", "LD[", "`DA", "LD{", "LD1", "111", "\x00\x00\x00", "\xff\xff\xff", "LD\xc1", "\u00c4D", "é\x80", "ÄÄÄ", "LDÄ", "ＬＤＡ",
		strings.Repeat("LDA", 1000),
	}
	for _, name := range inOrder {
		list = append(list, strings.ToLower(name), name[:2], name[1:], name+name[:1], name+" ", " "+name, name[:2]+"@", name[:2]+"[", "@"+name[1:], "["+name[1:])
	}
	return list
}

// capitals: goes through all texts of three capital letters.
func capitals(look func(text string)) {
	for i := byte('A'); i <= 'Z'; i++ {
		for j := byte('A'); j <= 'Z'; j++ {
			for k := byte('A'); k <= 'Z'; k++ {
				look(string([]byte{i, j, k}))
			}
		}
	}
}

// The chart and the list are two writings of the same: neither is right where they differ.
func TestTheChartHasTheMnemonics(t *testing.T) {
	var list []string
	for _, c := range cells(t) {
		if c.name != "" && !slices.Contains(list, c.name) {
			list = append(list, c.name)
		}
	}
	slices.Sort(list)
	if !slices.Equal(list, inOrder) {
		t.Errorf("the chart has %v", list)
	}
}
