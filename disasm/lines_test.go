package disasm_test

import (
	"bytes"
	"fmt"
	"math"
	"math/rand"
	"reflect"
	"slices"
	"strings"
	"testing"

	"orrery/api"
	"orrery/asm"
	"orrery/disasm"
)

// F20.1: all first bytes, with all bytes of the instruction there, with more behind them, and with one missing.
func TestAllFirstBytes(t *testing.T) {
	for op := range 256 {
		_, size := form(byte(op))
		for _, behind := range [][]byte{{0x12, 0x34, 0x56}, {0, 0, 0}, {0xff, 0xff, 0xff}, {0x7f, 0x80, 0}, {0x80, 0x7f, 0}} {
			b := append([]byte{byte(op)}, behind...)
			for _, pc := range []int{0, 1, 0x1000, 0x8000, 65536 - len(b)} {
				for n := 1; n <= len(b); n++ {
					want, whole := byChart(b[:n], pc, pc)
					if whole != (size > 0 && n >= size) {
						t.Fatalf("the chart is wrong at %02X", op)
					}
					wantOne(t, b[:n], pc, pc, want)
					wantOne(t, append([]byte{0xea}, b[:n-1]...), pc, pc, line{pc, []byte{0xea}, "NOP", -1})
				}
			}
			for n := 1; n <= len(b); n++ { // just ahead of the end of memory
				want, _ := byChart(b[:n], 65536-n, 65536-n)
				wantOne(t, b[:n], 65536-n, 65536-n, want)
			}
		}
	}
}

// F20.1: an instruction that ends at 65536, and one that would end above, is it the first line or a later one.
func TestAtTheEndOfMemory(t *testing.T) {
	wantOne(t, []byte{0x4c, 0x34, 0x12}, 65533, 65533, line{65533, []byte{0x4c, 0x34, 0x12}, "JMP $1234", 0x1234})
	wantOne(t, []byte{0x4c, 0x34}, 65534, 65534, line{65534, []byte{0x4c}, ".byte $4C", -1})
	wantOne(t, []byte{0x4c}, 65535, 65535, line{65535, []byte{0x4c}, ".byte $4C", -1})
	wantOne(t, []byte{0xea}, 65535, 65535, line{65535, []byte{0xea}, "NOP", -1})
	wantOne(t, []byte{0xd0, 0}, 65534, 65534, line{65534, []byte{0xd0, 0}, "BNE $0000", 0})
	whole := make([]byte, 65536)
	copy(whole[65532:], []byte{0xea, 0xad, 0xa9, 0xa9})
	wantOne(t, whole, 65533, 0, line{65533, []byte{0xad, 0xa9, 0xa9}, "LDA $A9A9", -1})
	wantOne(t, whole, 65534, 0, line{65534, []byte{0xa9, 0xa9}, "LDA #$A9", -1})
	wantOne(t, whole, 65535, 0, line{65535, []byte{0xa9}, ".byte $A9", -1})
	wantOne(t, whole, 0, 0, line{0, []byte{0}, "BRK", -1})
}

// F20.1: targets, forwards and backwards, over the ends of memory; of JMP and JSR with Abs alone.
func TestTargets(t *testing.T) {
	for _, c := range []struct {
		b      []byte
		pc     int
		text   string
		target int
	}{
		{[]byte{0x10, 0x7f}, 0x1000, "BPL $1081", 0x1081},
		{[]byte{0x30, 0x80}, 0x1000, "BMI $0F82", 0x0f82},
		{[]byte{0x50, 0x00}, 0x1000, "BVC $1002", 0x1002},
		{[]byte{0x70, 0xff}, 0x1000, "BVS $1001", 0x1001},
		{[]byte{0x90, 0x80}, 0, "BCC $FF82", 0xff82},
		{[]byte{0xb0, 0xfd}, 0, "BCS $FFFF", 0xffff},
		{[]byte{0xf0, 0xfe}, 0, "BEQ $0000", 0},
		{[]byte{0xd0, 0x7f}, 0xfffe, "BNE $007F", 0x7f},
		{[]byte{0xd0, 0xff}, 0xfffe, "BNE $FFFF", 0xffff},
		{[]byte{0x4c, 0xff, 0xff}, 0, "JMP $FFFF", 0xffff},
		{[]byte{0x4c, 0x00, 0x00}, 9, "JMP $0000", 0},
		{[]byte{0x20, 0x34, 0x12}, 0, "JSR $1234", 0x1234},
		{[]byte{0x6c, 0x34, 0x12}, 0, "JMP ($1234)", -1},
		{[]byte{0xad, 0x34, 0x12}, 0, "LDA $1234", -1},
		{[]byte{0x00}, 0, "BRK", -1},
		{[]byte{0x0a}, 0, "ASL A", -1},
	} {
		wantOne(t, c.b, c.pc, c.pc, line{c.pc, c.b, c.text, c.target})
	}
}

// F20.1: pc, the end of b, and at: the edges, and one beyond.
func TestNoSuchPlace(t *testing.T) {
	three := []byte{0xea, 0xa9, 0x80}
	wantOne(t, three, 100, 100, line{100, []byte{0xea}, "NOP", -1})
	wantOne(t, three, 101, 100, line{101, []byte{0xa9, 0x80}, "LDA #$80", -1})
	wantOne(t, three, 102, 100, line{102, []byte{0x80}, ".byte $80", -1})
	for _, place := range []int{99, 103, -1, 0, 2, 65536, 65636, math.MaxInt, math.MinInt} {
		wantNoOne(t, three, place, 100)
	}
	for _, pc := range []int{-1, -3, -100, 65534, 65535, 65536, 65537, math.MaxInt, math.MinInt, math.MaxInt - 2} {
		for _, place := range []int{pc, 0, 1, 65535} {
			wantNoOne(t, three, place, pc)
		}
		wantNoFollow(t, three, pc)
	}
	wantOne(t, three, 65535, 65533, line{65535, []byte{0x80}, ".byte $80", -1})
	wantOne(t, three, 0, 0, line{0, []byte{0xea}, "NOP", -1})
	for _, pc := range []int{-1, 0, 65535, 65536, 65537} {
		wantNoOne(t, nil, pc, pc)
		wantNoOne(t, []byte{}, 0, pc)
	}
	wantNoOne(t, make([]byte, 65537), 0, 0)
	wantNoOne(t, make([]byte, 65536), 1, 1)
	wantNoOne(t, make([]byte, 65536), 65536, 0)
}

// F20.1: Lines refuses the same, and takes no bytes at all up to 65536.
func TestLinesAndFollowOfNoSuchBytes(t *testing.T) {
	for _, c := range []struct {
		size, pc int
		e        api.Errno
	}{
		{0, -1, api.ErrArg}, {0, 0, api.OK}, {0, 65535, api.OK}, {0, 65536, api.OK}, {0, 65537, api.ErrArg}, {0, math.MaxInt, api.ErrArg}, {0, math.MinInt, api.ErrArg},
		{1, -1, api.ErrArg}, {1, 0, api.OK}, {1, 65535, api.OK}, {1, 65536, api.ErrArg}, {1, math.MaxInt, api.ErrArg},
		{3, 65533, api.OK}, {3, 65534, api.ErrArg}, {3, math.MaxInt - 1, api.ErrArg}, {3, -2, api.ErrArg},
		{65536, 0, api.OK}, {65536, 1, api.ErrArg}, {65536, -1, api.ErrArg}, {65537, 0, api.ErrArg}, {65537, -1, api.ErrArg}, {1 << 20, math.MinInt, api.ErrArg},
	} {
		want := c.size // of bytes 0, which are BRK
		if c.e != api.OK {
			want = 0
		}
		if got, e := disasm.Lines(make([]byte, c.size), c.pc); len(got) != want || e != c.e {
			t.Errorf("Lines(%d bytes, %d): %d lines, %v, not %d, %v", c.size, c.pc, len(got), e, want, c.e)
		}
		if got, e := disasm.Follow(make([]byte, c.size), c.pc, nil); len(got) != 0 || e != c.e {
			t.Errorf("Follow(%d bytes, %d): %d lines, %v, not %v", c.size, c.pc, len(got), e, c.e)
		}
	}
}

// P2001, F20.1: the lines stand one behind the other, each is One's, and their bytes are b.
func TestAllOfIt(t *testing.T) {
	chance := rand.New(rand.NewSource(2001))
	for round := range 3000 {
		b := make([]byte, chance.Intn(40))
		if round%500 == 0 {
			b = make([]byte, 65536)
		}
		chance.Read(b)
		pc := chance.Intn(65537 - len(b))
		if round%3 == 0 {
			pc = 65536 - len(b)
		}
		place := pc
		var all []byte
		for _, l := range linesOf(t, b, pc) {
			want, _ := byChart(b, place, pc)
			if !sameLine(l, want) {
				t.Fatalf("% x at %d: %v, not %v", b, pc, l, want)
			}
			one, e := disasm.One(b, place, pc)
			if !reflect.DeepEqual(one, l) || e != api.OK {
				t.Fatalf("% x at %d: One is %v, %v, not %v", b, pc, one, e, l)
			}
			all = append(all, l.Bytes...)
			place += len(l.Bytes)
		}
		if !bytes.Equal(all, b) {
			t.Fatalf("% x, not % x", all, b)
		}
	}
}

// P2002: the text of each instruction, assembled at its place, makes its bytes, unless the narrow mode would be chosen.
func TestBack(t *testing.T) {
	for op := range 256 {
		_, size := form(byte(op))
		if size == 0 {
			continue
		}
		for _, behind := range [][]byte{{0x12, 0x34}, {0, 0}, {0xff, 0}, {0, 1}, {0xff, 0xff}, {0x7f, 0x80}, {0x80, 0xff}} {
			b := append([]byte{byte(op)}, behind...)[:size]
			for _, pc := range []int{0, 0x1000, 65536 - size} {
				l, _ := disasm.One(b, pc, pc)
				made, _, e := asm.Assemble(fmt.Sprintf("* = $%04X\n%s", pc, l.Text))
				want := segments{{At: pc, Bytes: b}}
				if hasNarrow(byte(op)) && behind[1] == 0 {
					narrow := slices.Index(written, strings.Replace(written[op], "w", "b", 1))
					want[0].Bytes = []byte{byte(narrow), behind[0]}
				}
				if e != api.OK || !reflect.DeepEqual(made.Segments, want) {
					t.Errorf("%q at %#x: %v, %v, not %v", l.Text, pc, made.Segments, e, want)
				}
			}
		}
	}
}

// P2002: bare bytes come back as well.
func TestBareBytesBack(t *testing.T) {
	for op := range 256 {
		told := fmt.Sprintf(".byte $%02X", op)
		l, _ := disasm.One([]byte{byte(op)}, 7, 7)
		if _, size := form(byte(op)); size == 1 {
			continue
		}
		made, _, e := asm.Assemble(l.Text)
		if l.Text != told || l.Target != -1 || e != api.OK || !reflect.DeepEqual(made.Segments, segments{at(0, byte(op))}) {
			t.Errorf("%v: %v, %v", l, made.Segments, e)
		}
	}
}
