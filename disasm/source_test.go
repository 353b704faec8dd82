package disasm_test

import (
	"math"
	"testing"

	"orrery/api"
)

// F20.3: no segments, and empty ones, wherever they may be.
func TestSourceOfNothing(t *testing.T) {
	wantSource(t, nil, nil)
	wantSource(t, segments{}, []int{0, 65535, 7, 7})
	wantSource(t, segments{at(0), at(65536), at(5), at(5), at(65535)}, []int{5})
	wantSource(t, segments{at(5), at(4, 0x60, 0x60), at(5), at(6)}, []int{4}, "* = $0004", "  RTS", "  .byte $60")
	for _, place := range []int{-1, 65537, math.MaxInt, math.MinInt} {
		wantNoSource(t, "an empty one", segments{at(place)}, nil, api.ErrArg)
		wantNoSource(t, "an empty one behind another", segments{at(0, 1), at(place)}, nil, api.ErrArg)
	}
}

// F20.3: the merged segments.
func TestSourceMerges(t *testing.T) {
	wantSource(t, segments{at(0x300, 3), at(0x100, 1), at(0x200, 2)}, nil, "* = $0100", "  .byte $01", "* = $0200", "  .byte $02", "* = $0300", "  .byte $03")
	wantSource(t, segments{at(0x102, 3, 4), at(0x100, 1, 2), at(0x105, 9)}, nil, "* = $0100", "  .byte $01", "  .byte $02", "  .byte $03", "  .byte $04", "* = $0105", "  .byte $09")
	wantSource(t, segments{at(0x202, 0x12), at(0x200, 0xad), at(0x203, 0x60), at(0x201, 0x34)}, []int{0x200}, "* = $0200", "  LDA $1234", "  RTS") // an instruction over the seams
	wantSource(t, segments{at(65535, 0xea), at(0, 0xea)}, []int{65535, 0}, "* = $0000", "  NOP", "* = $FFFF", "  NOP")
	wantSource(t, segments{at(65533, 0x4c, 0xfd, 0xff)}, []int{65533}, "* = $FFFD", "LFFFD: JMP LFFFD")
	wantSource(t, segments{at(65534, 0x4c, 0xfd)}, []int{65534}, "* = $FFFE", "  .byte $4C", "  .byte $FD")
}

// F20.3: segments that are none, and ones that have a place in common.
func TestSourceOfWrongSegments(t *testing.T) {
	wrong := segments{at(-1, 1), at(-1, 1, 2), at(65536, 1), at(65535, 1, 2), at(65534, 1, 2, 3), at(math.MaxInt, 1), at(math.MinInt, 1), at(0, make([]byte, 65537)...), at(1, make([]byte, 65536)...)}
	for _, s := range wrong {
		wantNoSource(t, "a segment that ends above, or begins below", segments{s}, nil, api.ErrArg)
		wantNoSource(t, "one behind another", segments{at(7, 1), s}, []int{7}, api.ErrArg)
	}
	for _, l := range []segments{
		{at(5, 1), at(5, 1)},
		{at(5, 1, 2), at(6, 2)},
		{at(6, 1), at(5, 1, 2)},
		{at(5, 1, 2, 3, 4), at(6, 2, 3)},
		{at(6, 2), at(9, 1), at(5, 1, 2, 3, 4)},
		{at(0, make([]byte, 65536)...), at(65535, 0)},
		{at(0, make([]byte, 65536)...), at(0, 0)},
		{at(5, 1), at(5), at(5, 2)},
	} {
		wantNoSource(t, "a place in common", l, nil, api.ErrOver)
	}
	wantSource(t, segments{at(5, 1, 2), at(6), at(7, 3)}, nil, "* = $0005", "  .byte $01", "  .byte $02", "  .byte $03") // an empty one has no place
}

// F20.3: entries.
func TestSourceEntries(t *testing.T) {
	for _, entry := range []int{-1, 65536, math.MaxInt, math.MinInt} {
		wantNoSource(t, "an entry that is no place", segments{at(0, 0xea)}, []int{0, entry}, api.ErrArg)
		wantNoSource(t, "an entry that is no place, of nothing", nil, []int{entry, 0}, api.ErrArg)
	}
	b := at(0x200, 0xea, 0xea, 0x60)
	wantSource(t, segments{b}, nil, "* = $0200", "  .byte $EA", "  .byte $EA", "  .byte $60")
	wantSource(t, segments{b}, []int{0, 0x1ff, 0x203, 65535}, "* = $0200", "  .byte $EA", "  .byte $EA", "  .byte $60")
	wantSource(t, segments{b}, []int{0x202}, "* = $0200", "  .byte $EA", "  .byte $EA", "  RTS")
	wantSource(t, segments{b}, []int{65535, 0x201, 0x201, 0}, "* = $0200", "  .byte $EA", "  NOP", "  RTS")
	wantSource(t, segments{b}, []int{0x200}, "* = $0200", "  NOP", "  NOP", "  RTS")
	wantSource(t, segments{at(65535, 0xea)}, []int{65535}, "* = $FFFF", "  NOP")
}

// F20.3, rule 2: which of two errors is told.
func TestSourceTellsTheFirstError(t *testing.T) {
	over, wrong := segments{at(5, 1), at(5, 2)}, at(65536, 1)
	many := segments{at(0, branches(api.MaxLabels+1)...)}
	wantNoSource(t, "ErrArg of a segment, ErrOver", append(over, wrong), nil, api.ErrArg)
	wantNoSource(t, "ErrArg of an empty one, ErrOver", append(over, at(-1)), nil, api.ErrArg)
	wantNoSource(t, "ErrOver, ErrArg of an entry", over, []int{-1}, api.ErrOver)
	wantNoSource(t, "ErrOver, ErrBig", append(many, at(0, 1)), []int{0}, api.ErrOver)
	wantNoSource(t, "ErrArg of an entry, ErrBig", many, []int{0, 65536}, api.ErrArg)
	wantNoSource(t, "ErrArg of a segment, ErrBig", append(many, wrong), []int{0}, api.ErrArg)
	wantNoSource(t, "ErrBig", many, []int{0}, api.ErrBig)
}

// F20.3: a line stands where Follow has one and no line ahead has gone beyond its beginning.
func TestSourceTakesTheFirstOfTwo(t *testing.T) {
	b := at(0, 0x2c, 0xa9, 0x05, 0xf0, 0xfc, 0x60) // the branch goes into the middle of BIT
	wantSource(t, segments{b}, []int{0}, "* = $0000", "  BIT $05A9", "  BEQ $0001", "  RTS")
	wantSource(t, segments{b}, []int{1}, "* = $0000", "  .byte $2C", "L0001: LDA #$05", "  BEQ L0001", "  RTS")
	wantSource(t, segments{b}, []int{3}, "* = $0000", "  .byte $2C", "L0001: LDA #$05", "  BEQ L0001", "  RTS")
	wantSource(t, segments{at(0, 0xa9, 0xa9, 0x60, 0xea)}, []int{1, 0}, "* = $0000", "  LDA #$A9", "  RTS", "  NOP")                                      // one that is passed over still goes on
	wantSource(t, segments{at(0, 0xad, 0x20, 0x06, 0x00, 0xea, 0xea, 0x60)}, []int{0, 1}, "* = $0000", "  LDA $0620", "  BRK", "  NOP", "  NOP", "  RTS") // the target of one that is not told
}

// F20.3: which places have a label.
func TestSourceLabels(t *testing.T) {
	jump := at(0x1000, 0x4c, 0x00, 0x20)
	wantSource(t, segments{jump, at(0x2000, 0x60)}, []int{0x1000, 0x2000}, "* = $1000", "  JMP L2000", "* = $2000", "L2000: RTS")
	wantSource(t, segments{at(0x2000, 0x60), jump}, []int{0x1000}, "* = $1000", "  JMP $2000", "* = $2000", "  .byte $60")              // nobody follows from one segment into another
	wantSource(t, segments{jump, at(0x1fff, 0xa9, 0x60)}, []int{0x1000, 0x1fff}, "* = $1000", "  JMP $2000", "* = $1FFF", "  LDA #$60") // the middle of a line
	wantSource(t, segments{jump, at(0x2000, 0x02)}, []int{0x1000, 0x2000}, "* = $1000", "  JMP $2000", "* = $2000", "  .byte $02")      // a bare byte
	wantSource(t, segments{jump, at(0x2001, 0x60)}, []int{0x1000, 0x2001}, "* = $1000", "  JMP $2000", "* = $2001", "  RTS")            // in none
	wantSource(t, segments{jump, at(0x2000, 0xad, 0x10, 0x00)}, []int{0x1000, 0x2000}, "* = $1000", "  JMP L2000", "* = $2000", "L2000: .byte $AD,$10,$00")
	wantSource(t, segments{at(0x1000, 0x6c, 0x03, 0x10, 0x60)}, []int{0x1000, 0x1003}, "* = $1000", "  JMP ($1003)", "  RTS")
	wantSource(t, segments{at(0x1000, 0xad, 0x03, 0x10, 0x60)}, []int{0x1000}, "* = $1000", "  LDA $1003", "  RTS")
	wantSource(t, segments{at(0x1000, 0x20, 0x04, 0x10, 0x60, 0x40)}, []int{0x1000}, "* = $1000", "  JSR L1004", "  RTS", "L1004: RTI")
	wantSource(t, segments{at(0x1000, 0x02, 0x4c, 0x00, 0x10)}, []int{0x1001}, "* = $1000", "  .byte $02", "  JMP $1000")
	wantSource(t, segments{at(0x1000, 0xf0, 0x02, 0xd0, 0xfe, 0xf0, 0xfc)}, []int{0x1000}, "* = $1000", "  BEQ L1004", "L1002: BNE L1002", "L1004: BEQ L1002")
	wantSource(t, segments{at(0, 0xf0, 0xfc), at(0xfffe, 0xf0, 0x00)}, []int{0, 0xfffe}, "* = $0000", "L0000: BEQ LFFFE", "* = $FFFE", "LFFFE: BEQ L0000") // over the ends of memory
	wantSource(t, segments{at(0, 0xf0, 0x80)}, []int{0}, "* = $0000", "  BEQ $FF82")
	wantSource(t, segments{at(0x10, 0x4c, 0x13, 0x00, 0x20, 0x10, 0x00, 0xd0, 0xfb, 0x60)}, []int{0x10}, "* = $0010", "L0010: JMP L0013", "L0013: JSR L0010", "  BNE L0013", "  RTS") // below 256
	wantSource(t, segments{at(0x10, 0x4c, 0xff, 0x00)}, []int{0x10}, "* = $0010", "  JMP $00FF")
	wantSource(t, segments{at(0, 0x20, 0x00, 0x00)}, []int{0}, "* = $0000", "L0000: JSR L0000")
	wantSource(t, segments{at(0x10, 0xbd, 0x10, 0x00, 0x4c, 0x10, 0x00)}, []int{0x10}, "* = $0010", "L0010: .byte $BD,$10,$00", "  JMP L0010") // the operand of LDA is no target
}

// F20.3: where the narrow mode would be chosen the bytes are told.
func TestSourceNarrow(t *testing.T) {
	for op := range 256 {
		told, size := form(byte(op))
		if size != 3 {
			continue
		}
		for _, operand := range []int{0, 0x12, 255, 256, 0x1234, 65535} {
			s := at(0x8000, byte(op), byte(operand), byte(operand>>8))
			want, _ := byChart(s.Bytes, s.At, s.At)
			text := want.Text
			if hasNarrow(byte(op)) && operand < 256 {
				text = inBytes(s.Bytes)
			}
			t.Run(told, func(t *testing.T) { wantSource(t, segments{s}, []int{0x8000}, "* = $8000", "  "+text) })
		}
	}
	wantSource(t, segments{at(0, 0xad, 0xff, 0x00)}, []int{0}, "* = $0000", "  .byte $AD,$FF,$00")
	wantSource(t, segments{at(0, 0xad, 0x00, 0x01)}, []int{0}, "* = $0000", "  LDA $0100")
	wantSource(t, segments{at(0, 0xbd, 0xff, 0x00)}, []int{0}, "* = $0000", "  .byte $BD,$FF,$00")
	wantSource(t, segments{at(0, 0xbd, 0x00, 0x01)}, []int{0}, "* = $0000", "  LDA $0100,X")
	wantSource(t, segments{at(0, 0xbe, 0xff, 0x00)}, []int{0}, "* = $0000", "  .byte $BE,$FF,$00")
	wantSource(t, segments{at(0, 0xbe, 0x00, 0x01)}, []int{0}, "* = $0000", "  LDX $0100,Y")
	wantSource(t, segments{at(0, 0xb9, 0xff, 0x00)}, []int{0}, "* = $0000", "  LDA $00FF,Y") // LDA has no Zpy
	wantSource(t, segments{at(0, 0x6c, 0xff, 0x00)}, []int{0}, "* = $0000", "  JMP ($00FF)")
	wantSource(t, segments{at(0, 0xa5, 0xff, 0xb5, 0x00, 0xb6, 0x01, 0x96, 0x02)}, []int{0}, "* = $0000", "  LDA $FF", "  LDA $00,X", "  LDX $01,Y", "  STX $02,Y")
}
