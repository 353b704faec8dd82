package opcode

// The mnemonics, counted from 1 on, so that 0 is none.
const (
	none = iota
	adc
	and
	asl
	bcc
	bcs
	beq
	bit
	bmi
	bne
	bpl
	brk
	bvc
	bvs
	clc
	cld
	cli
	clv
	cmp
	cpx
	cpy
	dec
	dex
	dey
	eor
	inc
	inx
	iny
	jmp
	jsr
	lda
	ldx
	ldy
	lsr
	nop
	ora
	pha
	php
	pla
	plp
	rol
	ror
	rti
	rts
	sbc
	sec
	sed
	sei
	sta
	stx
	sty
	tax
	tay
	tsx
	txa
	txs
	tya
)

const (
	mnemonics = tya // how many there are
	letters   = 3   // of each
	step      = letters + 1
)

// names: of the mnemonics, in their order.
const names = "ADC AND ASL BCC BCS BEQ BIT BMI BNE BPL BRK BVC BVS CLC " +
	"CLD CLI CLV CMP CPX CPY DEC DEX DEY EOR INC INX INY JMP " +
	"JSR LDA LDX LDY LSR NOP ORA PHA PHP PLA PLP ROL ROR RTI " +
	"RTS SBC SEC SED SEI STA STX STY TAX TAY TSX TXA TXS TYA "

func nameOf(mnemonic int) string {
	if mnemonic == none {
		return ""
	}
	at := (mnemonic - 1) * step
	return names[at : at+letters]
}

func classOf(mnemonic int) int {
	switch mnemonic {
	case none:
		return 0
	case ora, and, eor, adc, lda, cmp, sbc, ldx, ldy, cpx, cpy, bit:
		return Reads
	case sta, stx, sty:
		return Writes
	case asl, rol, lsr, ror, dec, inc:
		return Changes
	case bpl, bmi, bvc, bvs, bcc, bcs, bne, beq:
		return Branches
	}
	return Others
}
