package disasm_test

import (
	"fmt"
	"strings"
	"testing"
)

// chart: the opcodes written out by hand, sixteen to a line: the mnemonic and how its operand is written, with b for a byte, w for two, and r for the distance of a branch.
const chart = `
BRK  ORA_(b,X) -      - -       ORA_b   ASL_b   - PHP ORA_#b  ASL_A - -      ORA_w   ASL_w   -
BPL_r ORA_(b),Y -     - -       ORA_b,X ASL_b,X - CLC ORA_w,Y -     - -      ORA_w,X ASL_w,X -
JSR_w AND_(b,X) -     - BIT_b   AND_b   ROL_b   - PLP AND_#b  ROL_A - BIT_w  AND_w   ROL_w   -
BMI_r AND_(b),Y -     - -       AND_b,X ROL_b,X - SEC AND_w,Y -     - -      AND_w,X ROL_w,X -
RTI  EOR_(b,X) -      - -       EOR_b   LSR_b   - PHA EOR_#b  LSR_A - JMP_w  EOR_w   LSR_w   -
BVC_r EOR_(b),Y -     - -       EOR_b,X LSR_b,X - CLI EOR_w,Y -     - -      EOR_w,X LSR_w,X -
RTS  ADC_(b,X) -      - -       ADC_b   ROR_b   - PLA ADC_#b  ROR_A - JMP_(w) ADC_w  ROR_w   -
BVS_r ADC_(b),Y -     - -       ADC_b,X ROR_b,X - SEI ADC_w,Y -     - -      ADC_w,X ROR_w,X -
-    STA_(b,X) -      - STY_b   STA_b   STX_b   - DEY -       TXA   - STY_w  STA_w   STX_w   -
BCC_r STA_(b),Y -     - STY_b,X STA_b,X STX_b,Y - TYA STA_w,Y TXS   - -      STA_w,X -       -
LDY_#b LDA_(b,X) LDX_#b - LDY_b LDA_b   LDX_b   - TAY LDA_#b  TAX   - LDY_w  LDA_w   LDX_w   -
BCS_r LDA_(b),Y -     - LDY_b,X LDA_b,X LDX_b,Y - CLV LDA_w,Y TSX   - LDY_w,X LDA_w,X LDX_w,Y -
CPY_#b CMP_(b,X) -    - CPY_b   CMP_b   DEC_b   - INY CMP_#b  DEX   - CPY_w  CMP_w   DEC_w   -
BNE_r CMP_(b),Y -     - -       CMP_b,X DEC_b,X - CLD CMP_w,Y -     - -      CMP_w,X DEC_w,X -
CPX_#b SBC_(b,X) -    - CPX_b   SBC_b   INC_b   - INX SBC_#b  NOP   - CPX_w  SBC_w   INC_w   -
BEQ_r SBC_(b),Y -     - -       SBC_b,X INC_b,X - SED SBC_w,Y -     - -      SBC_w,X INC_w,X -
`

var written = strings.Fields(chart)

// form: how an opcode is written, and of how many bytes; 0, if it is none.
func form(op byte) (string, int) {
	told := written[op]
	switch {
	case told == "-":
		return "", 0
	case strings.Contains(told, "w"):
		return told, 3
	case strings.ContainsAny(told, "br"):
		return told, 2
	}
	return told, 1
}

// byChart: the line at a place, the chart read; false of a bare byte.
func byChart(b []byte, place, pc int) (line, bool) {
	rest := b[place-pc:]
	told, size := form(rest[0])
	if size == 0 || size > len(rest) {
		return line{place, []byte{rest[0]}, fmt.Sprintf(".byte $%02X", rest[0]), -1}, false
	}
	l := line{At: place, Bytes: rest[:size], Target: -1}
	name, operand, _ := strings.Cut(told, "_")
	switch {
	case strings.Contains(operand, "r"):
		l.Target = (place + 2 + int(int8(rest[1])) + 65536) % 65536
		operand = fmt.Sprintf("$%04X", l.Target)
	case size == 2:
		operand = strings.Replace(operand, "b", fmt.Sprintf("$%02X", rest[1]), 1)
	case size == 3:
		word := int(rest[1]) + 256*int(rest[2])
		operand = strings.Replace(operand, "w", fmt.Sprintf("$%04X", word), 1)
		if told == "JMP_w" || told == "JSR_w" {
			l.Target = word
		}
	}
	l.Text = strings.TrimSuffix(name+" "+operand, " ")
	return l, true
}

// next: the places that the line at a place goes on to, if it is an instruction.
func next(l line) []int {
	var list []int
	if !strings.Contains("JMP RTS RTI BRK", l.Text[:3]) {
		list = append(list, l.At+len(l.Bytes))
	}
	if l.Target >= 0 {
		list = append(list, l.Target)
	}
	return list
}

// hasNarrow: is there an opcode of the same mnemonic with one byte in place of two?
func hasNarrow(op byte) bool {
	told, size := form(op)
	if size != 3 || strings.Contains(told, "(") {
		return false
	}
	for _, other := range written {
		if other == strings.Replace(told, "w", "b", 1) {
			return true
		}
	}
	return false
}

func TestChart(t *testing.T) {
	count, narrow := 0, 0
	for op := range 256 {
		if _, size := form(byte(op)); size > 0 {
			count++
		}
		if hasNarrow(byte(op)) {
			narrow++
		}
	}
	if len(written) != 256 || count != 151 || narrow != 37 {
		t.Errorf("%d cells, %d instructions, %d with a narrow mode", len(written), count, narrow)
	}
}
