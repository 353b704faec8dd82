package cpu_test

import (
	"bytes"
	"math/big"
	"math/rand"
	"slices"
	"testing"

	"orrery/api"
	"orrery/asm"
	"orrery/cpu"
	"orrery/hexfile"
	"orrery/mem"
	"orrery/tape"
)

const multiplication = `
factor = $10
other = $11
product = $12
* = $0200
        lda #0
        ldx #8
loop:   lsr factor
        bcc skip
        clc
        adc other
skip:   ror a
        ror product
        dex
        bne loop
        sta product+1
here:   jmp here
`

const sort = `
count = $10
last = $11
moved = $12
from = $14
* = $0200
        lda #<list
        sta from
        lda #>list
        sta from+1
        ldy count
        dey
        beq done
        sty last
pass:   ldx #0
        stx moved
        ldy #0
each:   lda (from),y
        iny
        cmp (from),y
        bcc next
        beq next
        jsr swap
next:   cpy last
        bne each
        lda moved
        bne pass
done:   jmp done

; the byte at y and the one ahead of it
swap:   tax
        lda (from),y
        dey
        sta (from),y
        iny
        txa
        sta (from),y
        lda #1
        sta moved
        rts
* = $04f8
list:   .res 256
`

// sumLong: of as many bytes as Y says, the lowest first; what is put into the flags ahead of it tells how.
const sumLong = `
* = $0200
        ldx #0
loop:   lda $20,x
        adc $60,x
        sta $a0,x
        inx
        dey
        bne loop
here:   jmp here
`

const differenceLong = `
* = $0200
        ldx #0
loop:   lda $20,x
        sbc $60,x
        sta $a0,x
        inx
        dey
        bne loop
here:   jmp here
`

// assembled: the segments of a source.
func assembled(t testing.TB, source string) []api.Segment {
	t.Helper()
	l, line, e := asm.Assemble(source)
	if e != api.OK {
		t.Fatalf("line %d: %v", line, e)
	}
	return l.Segments
}

func loaded(t testing.TB, l []api.Segment) (*mem.Memory, *cpu.CPU) {
	t.Helper()
	m := allRam(t)
	is(t, "Load", m.Load(l), api.OK)
	return m, over(t, m)
}

// untilItStays: steps until one behind which all is as ahead of it; how many there were.
func untilItStays(t testing.TB, c *cpu.CPU) int {
	t.Helper()
	for n := 1; n < 1000000; n++ {
		s, e := c.Step()
		if e != api.OK {
			t.Fatal(e)
		}
		if s.Kind == cpu.Plain && s.Before == s.After {
			return n
		}
	}
	t.Fatal("it goes on and on")
	return 0
}

func peek(t testing.TB, m *mem.Memory, at, n int) []byte {
	t.Helper()
	var list []byte
	for i := range n {
		b, e := m.Peek(at + i)
		is(t, "Peek", e, api.OK)
		list = append(list, b)
	}
	return list
}

// P8: a multiplication multiplies.
func TestMultiplication(t *testing.T) {
	m, c := loaded(t, assembled(t, multiplication))
	try := func(a, b byte) {
		t.Helper()
		lay(t, m, 0x10, a, b, 0x55, 0x55)
		c.Set(api.Regs{PC: 0x200})
		untilItStays(t, c)
		p := int(a) * int(b)
		is(t, "product", peek(t, m, 0x12, 2), []byte{byte(p), byte(p >> 8)})
	}
	edges := []byte{0, 1, 2, 3, 127, 128, 129, 254, 255}
	for _, a := range edges {
		for _, b := range edges {
			try(a, b)
		}
	}
	g := rand.New(rand.NewSource(1))
	for range 3000 {
		try(byte(g.Intn(256)), byte(g.Intn(256)))
	}
}

// P8: a sort sorts, over the end of a page too.
func TestSort(t *testing.T) {
	m, c := loaded(t, assembled(t, sort))
	g := rand.New(rand.NewSource(2))
	for _, n := range []int{1, 2, 3, 7, 8, 9, 20, 60, 100} {
		for kind := range 4 {
			l := make([]byte, n)
			for i := range l {
				l[i] = []byte{byte(g.Intn(256)), byte(i), byte(n - i), byte(g.Intn(2))}[kind]
			}
			lay(t, m, 0x10, byte(n))
			lay(t, m, 0x4f8, l...)
			lay(t, m, 0x4f8+n, 0x77)
			c.Set(api.Regs{PC: 0x200, S: 0xff})
			untilItStays(t, c)
			slices.Sort(l)
			is(t, "sorted", peek(t, m, 0x4f8, n+1), append(l, 0x77))
			is(t, "S", c.Regs().S, byte(0xff))
		}
	}
}

// number: of bytes, the lowest first, in their digits to a base of 16 or 10.
func number(l []byte, base int) *big.Int {
	n := new(big.Int)
	for _, b := range slices.Backward(l) {
		n.Mul(n, big.NewInt(int64(base)))
		n.Add(n, big.NewInt(int64(b>>4)))
		n.Mul(n, big.NewInt(int64(base)))
		n.Add(n, big.NewInt(int64(b&15)))
	}
	return n
}

// longNumber: of n bytes, whose halves are digits to the base; some of them all nines, or noughts.
func longNumber(g *rand.Rand, n, base int) []byte {
	l := make([]byte, n)
	kind := g.Intn(4)
	for i := range l {
		high, low := g.Intn(base), g.Intn(base)
		switch kind {
		case 0:
			high, low = base-1, base-1
		case 1:
			high, low = 0, g.Intn(2)
		}
		l[i] = byte(high<<4 | low)
	}
	return l
}

// P7: long numbers, byte by byte, binary and decimal, with a carry handed in and handed on.
func TestLongNumbers(t *testing.T) {
	g := rand.New(rand.NewSource(3))
	sums, overSums := loaded(t, assembled(t, sumLong))
	differences, overDifferences := loaded(t, assembled(t, differenceLong))
	for i := range 600 {
		base, p := 16, byte(0)
		if i%2 == 1 {
			base, p = 10, api.FlagD
		}
		n := 1 + g.Intn(64)
		a, b, carry := longNumber(g, n, base), longNumber(g, n, base), g.Intn(2)
		most := new(big.Int).Exp(big.NewInt(int64(base)), big.NewInt(int64(2*n)), nil)
		for _, x := range []struct {
			m *mem.Memory
			c *cpu.CPU
			n *big.Int // what comes, and 1 less of the carry that differences lack
		}{
			{sums, overSums, new(big.Int).Add(new(big.Int).Add(number(a, base), number(b, base)), big.NewInt(int64(carry)))},
			{differences, overDifferences, new(big.Int).Add(new(big.Int).Sub(number(a, base), number(b, base)), new(big.Int).Add(most, big.NewInt(int64(carry-1))))},
		} {
			lay(t, x.m, 0x20, a...)
			lay(t, x.m, 0x60, b...)
			x.c.Set(api.Regs{Y: byte(n), PC: 0x200, P: p | byte(carry)})
			untilItStays(t, x.c)
			got := number(peek(t, x.m, 0xa0, n), base)
			if x.c.Regs().P&api.FlagC != 0 {
				got.Add(got, most)
			}
			is(t, "the number with its carry", got.String(), x.n.String())
		}
	}
}

// P8: calls within calls, the deepest the stack has room for.
func TestCallsWithinCalls(t *testing.T) {
	m, c := loaded(t, assembled(t, `
total = $10
* = $0200
        lda #0
        sta total
        sta total+1
        lda $12
        jsr sum
here:   jmp here
sum:    cmp #0
        beq end
        pha
        sec
        sbc #1
        jsr sum
        pla
        clc
        adc total
        sta total
        bcc end
        inc total+1
end:    rts
`))
	for _, n := range []int{0, 1, 2, 10, 23, 50, 84} {
		lay(t, m, 0x12, byte(n))
		c.Set(api.Regs{PC: 0x200, S: 0xff})
		untilItStays(t, c)
		sum := n * (n + 1) / 2
		is(t, "sum", peek(t, m, 0x10, 2), []byte{byte(sum), byte(sum >> 8)})
		is(t, "S", c.Regs().S, byte(0xff))
	}
}

// P8: interrupts between any two steps change nothing of what a program does.
func TestInterruptsBetweenSteps(t *testing.T) {
	handlers := assembled(t, `
* = $0800
rings:  pha
        inc $f0
        pla
        rti
line:   php
        inc $f1
        plp
        rti
* = $fffa
        .word rings, 0, line
`)
	m, c := loaded(t, assembled(t, sort))
	is(t, "Load", m.Load(handlers), api.OK)
	g := rand.New(rand.NewSource(4))
	l := make([]byte, 40)
	g.Read(l)
	lay(t, m, 0x10, byte(len(l)))
	lay(t, m, 0x4f8, l...)
	c.Set(api.Regs{PC: 0x200, S: 0xff})
	nmis, lines := 0, 0
	for range 1000000 {
		if g.Intn(7) == 0 {
			c.Nmi()
		}
		c.Irq(2, g.Intn(9) == 0)
		s, e := c.Step()
		if e != api.OK {
			t.Fatal(e)
		}
		switch s.Kind {
		case cpu.Nmi:
			nmis++
		case cpu.Irq:
			lines++
		}
		if s.Kind == cpu.Plain && s.Before == s.After {
			break
		}
	}
	slices.Sort(l)
	is(t, "sorted", peek(t, m, 0x4f8, len(l)), l)
	is(t, "interrupts", peek(t, m, 0xf0, 2), []byte{byte(nmis), byte(lines)})
	if nmis < 100 || lines < 100 {
		t.Errorf("%d and %d interrupts are too few to tell", nmis, lines)
	}
}

// BRK goes where a line goes, and its RTI goes on two places behind it; P on the stack tells the two apart.
func TestBrkWithinAProgram(t *testing.T) {
	m, c := loaded(t, assembled(t, `
* = $0200
        ldx #3
loop:   brk
        .byte $42
        dex
        bne loop
here:   jmp here
handler:
        sta $10
        pla
        pha
        and #$10
        beq out
        inc $11
out:    lda $10
        rti
* = $fffe
        .word handler
`))
	c.Set(api.Regs{A: 7, PC: 0x200, S: 0xff})
	untilItStays(t, c)
	is(t, "BRKs", peek(t, m, 0x11, 1), []byte{3})
	is(t, "A", c.Regs().A, byte(7))
}

// The whole's example 8: steps, cycles, and what came to the port; and example 9: with one bit of each cell turned.
func TestExampleOfTheWhole(t *testing.T) {
	l := assembled(t, "* = $0200\nstart: ldx #5\nloop: dex\n bne loop\n lda #$21\n sta $d000\nhere: jmp here")
	for _, turned := range []bool{false, true} {
		m := made(t, mem.Region{From: 0, To: 49152, Kind: mem.Ram}, mem.Region{From: 0xd000, To: 0xd010, Kind: mem.Port}, mem.Region{From: 57344, To: 65536, Kind: mem.Rom})
		var output []byte
		m.Attach(0xd000, nil, func(reg int, b byte) { output = append(output, byte(reg), b) })
		is(t, "Load", m.Load(append(l, api.Segment{At: 65532, Bytes: list(0x00, 0x02)})), api.OK)
		for at := 0; turned && at < 65536; at++ {
			m.Turn(at, at%13)
		}
		c := over(t, m)
		is(t, "Reset", c.Reset(), api.OK)
		before := c.Cycles()
		is(t, "steps", untilItStays(t, c), 14)
		is(t, "cycles", c.Cycles()-before, uint64(35))
		is(t, "output", output, list(0, 0x21))
	}
}

// P6: a program that went by source, hex text and a scratched tape does what it does.
func TestAnyCarrier(t *testing.T) {
	program := assembled(t, multiplication)
	g := rand.New(rand.NewSource(5))
	for _, format := range []int{hexfile.Intel, hexfile.Motorola, hexfile.Mos} {
		text, e := hexfile.Write(hexfile.File{Format: format, Segments: program, Entry: 0x200}, 16)
		if format == hexfile.Mos { // it has no entry
			text, e = hexfile.Write(hexfile.File{Format: format, Segments: program, Entry: -1}, 16)
		}
		is(t, "hexfile.Write", e, api.OK)
		file, _, e := hexfile.Read(text)
		is(t, "hexfile.Read", e, api.OK)
		b, e := tape.Write(tape.Image{Segments: file.Segments, Entry: 0x200}, 2)
		is(t, "tape.Write", e, api.OK)
		whole := bytes.Clone(b)
		for frame := 0; frame < len(b); frame += 260 {
			from := frame + 4 + g.Intn(220)
			g.Read(b[from : from+32])
		}
		image, _, e := tape.Read(b)
		is(t, "tape.Read", e, api.OK)
		is(t, "scratched", bytes.Equal(b, whole), false)
		m, c := loaded(t, image.Segments)
		lay(t, m, 0x10, 200, 201)
		c.Set(api.Regs{PC: uint16(image.Entry)})
		untilItStays(t, c)
		is(t, "product", peek(t, m, 0x12, 2), []byte{byte(200 * 201 % 256), byte(200 * 201 / 256)})
		is(t, "what came back", hexfile.Same(image.Segments, program), true)
	}
}
