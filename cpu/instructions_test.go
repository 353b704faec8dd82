package cpu_test

import (
	"fmt"
	"math/rand"
	"reflect"
	"testing"

	"orrery/api"
	"orrery/cpu"
)

// telling: bytes at which something turns, and any other.
var telling = []byte{0, 1, 2, 0x7e, 0x7f, 0x80, 0x81, 0xfd, 0xfe, 0xff, 0x0f, 0x10, 0x99, 0x9a}

func anyByte(g *rand.Rand) byte {
	if g.Intn(2) == 0 {
		return telling[g.Intn(len(telling))]
	}
	return byte(g.Intn(256))
}

// anyRegs: PC often where an instruction goes over the end of a page, or round the end.
func anyRegs(g *rand.Rand) api.Regs {
	r := api.Regs{A: anyByte(g), X: anyByte(g), Y: anyByte(g), S: anyByte(g), P: byte(g.Intn(256))&^api.FlagB | api.FlagU}
	r.PC = uint16(anyByte(g))<<8 | uint16(anyByte(g))
	if g.Intn(4) == 0 {
		r.PC = uint16(65530 + g.Intn(9)) // some of them round
	}
	return r
}

// pair: a processor over a field, and the second reading of the same bytes.
type pair struct {
	f *field
	c *cpu.CPU
	s *second
}

func newPair(t testing.TB, g *rand.Rand) *pair {
	t.Helper()
	p := &pair{f: newField(t), s: &second{}}
	for i := range p.s.bytes {
		p.s.bytes[i] = anyByte(g)
	}
	p.f.bytes = p.s.bytes
	p.c = over(t, p.f.memory)
	p.s.r = p.c.Regs()
	return p
}

func (p *pair) lay(at int, list ...byte) {
	p.f.lay(at, list...)
	for i, b := range list {
		p.s.bytes[(at+i)%65536] = b
	}
}

// at: both have these registers.
func (p *pair) at(r api.Regs) {
	p.c.Set(r)
	p.s.r = r
}

// step: both do the same, and ports see the same.
func (p *pair) step(t *testing.T) {
	t.Helper()
	regs, cycles := p.c.Regs(), p.c.Cycles()
	want, ok := p.s.step()
	got, e := p.c.Step()
	what := fmt.Sprintf("% x at %+v", want.Bytes, regs)
	if !ok {
		is(t, what+": the error", e, api.ErrJam)
		is(t, what+": Reset", p.c.Reset(), api.OK)
		is(t, what+": what the port sees", p.f.told()[:1], p.s.told())
		p.s.r.PC++ // so that it goes on
		p.c.Restore(p.s.r, uint64(p.s.cycles), p.s.lines, p.s.nmi, api.OK)
		return
	}
	is(t, what+": the error", e, api.OK)
	if !reflect.DeepEqual(got, want) {
		t.Errorf("%s: %+v, not %+v", what, got, want)
	}
	is(t, what+": what the port sees", p.f.told(), p.s.told())
	is(t, what+": Regs", p.c.Regs(), want.After)
	is(t, what+": Cycles", p.c.Cycles(), cycles+uint64(want.Cycles))
	is(t, what+": Jam", p.c.Jam(), api.OK)
	wantLines(t, what+": Lines", p.c, p.s.lines, p.s.nmi)
	if t.Failed() {
		t.FailNow()
	}
}

// P2502, P2503, P2504, P2506: each of the 151 instructions, over made-up registers and bytes.
func TestEachInstruction(t *testing.T) {
	for op := range 256 {
		r, ok := rows[byte(op)]
		if !ok {
			continue
		}
		t.Run(fmt.Sprintf("%s_%s", r.name, r.way), func(t *testing.T) {
			t.Parallel()
			g := rand.New(rand.NewSource(int64(op)))
			p := newPair(t, g)
			for range 4000 {
				regs := anyRegs(g)
				p.lay(int(regs.PC), byte(op), anyByte(g), anyByte(g))
				p.at(regs)
				p.step(t)
			}
			is(t, "the bytes", p.f.bytes == p.s.bytes, true)
		})
	}
}

// P2502: the other 105 opcodes jam, and nothing but the opcode is read.
func TestNoInstruction(t *testing.T) {
	g := rand.New(rand.NewSource(1))
	f := newField(t)
	c := over(t, f.memory)
	count := 0
	for op := range 256 {
		if _, ok := rows[byte(op)]; ok {
			continue
		}
		count++
		for range 20 {
			r := anyRegs(g)
			f.lay(int(r.PC), byte(op), 1, 2)
			c.Restore(r, 1000, 255, false, api.OK)
			r.P |= api.FlagI
			c.Set(r)
			f.told()
			wantNoStep(t, fmt.Sprintf("%02x", op), c, api.ErrJam)
			is(t, "what the port sees", f.told(), []access{reads(int(r.PC), byte(op))})
			wantNoStep(t, "again", c, api.ErrJam)
			wantNoStep(t, "and again", c, api.ErrJam)
			is(t, "what the port sees then", len(f.told()), 0)
			wantLines(t, "Lines", c, 255, false)
		}
	}
	is(t, "how many", count, 105)
}

// P2502, P2505, P2507: on and on, with interrupts, over whatever the bytes are.
func TestOnAndOn(t *testing.T) {
	for seed := range 40 {
		t.Run(fmt.Sprint(seed), func(t *testing.T) {
			t.Parallel()
			g := rand.New(rand.NewSource(int64(seed)))
			p := newPair(t, g)
			for range 5000 {
				p.disturb(g)
				p.step(t)
			}
			is(t, "the bytes", p.f.bytes == p.s.bytes, true)
		})
	}
}

// disturb: from time to time, by a line, an NMI, other registers.
func (p *pair) disturb(g *rand.Rand) {
	switch g.Intn(20) {
	case 0:
		p.c.Nmi()
		p.s.nmi = true
	case 1:
		line := g.Intn(8)
		p.c.Irq(line, true)
		p.s.lines |= 1 << line
	case 2, 3:
		line := g.Intn(8)
		p.c.Irq(line, false)
		p.s.lines &^= 1 << line
	case 4:
		p.at(anyRegs(g))
	case 5:
		p.lay(int(p.s.r.PC), 0x58) // CLI
	}
}

// P2507: two processors over memories that are the same, with the same registers and lines.
func TestTheSameSteps(t *testing.T) {
	g := rand.New(rand.NewSource(7))
	list := make([]byte, 65536)
	for i := range list {
		list[i] = anyByte(g)
	}
	m, n := allRam(t), allRam(t)
	lay(t, m, 0, list...)
	lay(t, n, 0, list...)
	c, d := over(t, m), over(t, n)
	for i := range 20000 {
		if i%50 == 0 { // the one comes from another way
			r, lines, nmi := anyRegs(g), g.Intn(256), g.Intn(2) == 0
			c.Restore(r, uint64(i), lines, nmi, api.OK)
			d = over(t, n)
			d.Restore(r, 5, lines, nmi, api.OK)
		}
		before := []uint64{c.Cycles(), d.Cycles()}
		s, e := c.Step()
		again, f := d.Step()
		is(t, "the Step", []any{s, e}, []any{again, f})
		is(t, "Cycles rises", []uint64{c.Cycles() - before[0], d.Cycles() - before[1]}, []uint64{uint64(s.Cycles), uint64(s.Cycles)})
		is(t, "Regs", c.Regs(), d.Regs())
	}
	is(t, "the memories", m.Same(n), true)
}
