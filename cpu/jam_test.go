package cpu_test

import (
	"fmt"
	"math/rand"
	"testing"

	"orrery/api"
	"orrery/cpu"
	"orrery/mem"
)

// scene: a memory of RAM, a processor over it, and the second reading of the same bytes.
type scene struct {
	m *mem.Memory
	c *cpu.CPU
	s *second
}

func newScene(t testing.TB, g *rand.Rand) *scene {
	t.Helper()
	x := &scene{m: allRam(t), s: &second{}}
	for i := range x.s.bytes {
		x.s.bytes[i] = anyByte(g)
	}
	lay(t, x.m, 0, x.s.bytes[:]...)
	x.c = over(t, x.m)
	return x
}

func (x *scene) lay(t testing.TB, at int, list ...byte) {
	t.Helper()
	for i, b := range list {
		x.s.bytes[(at+i)%65536] = b
		lay(t, x.m, (at+i)%65536, b)
	}
}

// jamAt: what is done ahead of the read with this number stays, and nothing else is done. Then all is as it was.
func (x *scene) jamAt(t *testing.T, what string, log []access, k int, nmi bool) {
	t.Helper()
	r, cycles := x.c.Regs(), x.c.Cycles()
	lines, _ := x.c.Lines()
	spoil(t, x.m, log[k].at)
	_, lost := x.m.Counts()
	wantNoStep(t, what, x.c, api.ErrParity)
	_, lostThen := x.m.Counts()
	is(t, what+": reads that are lost", lostThen-lost, 1)
	wantLines(t, what+": an NMI that was taken waits no more", x.c, lines, false)
	then := map[int]byte{}
	for _, a := range log[:k] {
		if a.write {
			then[a.at] = a.b
		}
	}
	for _, a := range log {
		b, written := then[a.at]
		if !written {
			b = x.s.bytes[a.at]
		}
		if a.at == log[k].at {
			_, e := x.m.Peek(a.at)
			is(t, what+": it is not mended", e, api.ErrParity)
		} else if got, e := x.m.Peek(a.at); got != b || e != api.OK {
			t.Errorf("%s: at %04x %02x, %v, not %02x", what, a.at, got, e, b)
		}
	}
	for _, a := range log {
		lay(t, x.m, a.at, x.s.bytes[a.at])
	}
	wantNoStep(t, what+", mended too late", x.c, api.ErrParity)
	is(t, "Restore", x.c.Restore(r, cycles, lines, nmi, api.OK), api.OK)
}

// firstReads: the numbers of the reads of places that nothing was done to yet.
func firstReads(log []access) []int {
	seen := map[int]bool{}
	var list []int
	for k, a := range log {
		if !a.write && !seen[a.at] {
			list = append(list, k)
		}
		seen[a.at] = true
	}
	return list
}

// jamEverywhere: at each read of the step that comes next.
func (x *scene) jamEverywhere(t *testing.T, what string, r api.Regs, lines int, nmi bool) int {
	t.Helper()
	is(t, "Restore", x.c.Restore(r, 1<<40, lines, nmi, api.OK), api.OK)
	bytes := x.s.bytes
	x.s.r, x.s.lines, x.s.nmi = r, lines, nmi
	if _, ok := x.s.step(); !ok {
		t.Fatal(what)
	}
	log := x.s.told()
	x.s.bytes = bytes
	list := firstReads(log)
	for _, k := range list {
		x.jamAt(t, fmt.Sprintf("%s at %+v, read %d of %v", what, r, k, log), log, k, nmi)
	}
	return len(list)
}

// P2502: at each read of each instruction.
func TestJamAtEachRead(t *testing.T) {
	for op := range 256 {
		r, ok := rows[byte(op)]
		if !ok {
			continue
		}
		t.Run(fmt.Sprintf("%s_%s", r.name, r.way), func(t *testing.T) {
			t.Parallel()
			g := rand.New(rand.NewSource(int64(op)))
			x := newScene(t, g)
			for range 20 {
				regs := anyRegs(g)
				x.lay(t, int(regs.PC), byte(op), anyByte(g), anyByte(g))
				x.jamEverywhere(t, r.name, regs, 0, false)
			}
		})
	}
}

// P2502: how many reads there are at the most, where no place is read twice: a jam at each of them was tried.
func TestJamTriesAll(t *testing.T) {
	for op, want := range map[byte]int{
		0xea: 1, 0xa9: 2, 0xa5: 3, 0xb5: 3, 0xad: 4, 0xbd: 4, 0xa1: 5, 0xb1: 5, 0x6c: 5, 0x4c: 3, 0x20: 3,
		0x60: 3, 0x40: 4, 0x00: 3, 0x68: 2, 0x28: 2, 0x48: 1, 0xd0: 2, 0xee: 4, 0x8d: 3, 0x81: 4, 0x91: 4, 0x0a: 1,
	} {
		x := newScene(t, rand.New(rand.NewSource(1)))
		x.lay(t, 0x1000, op, 0x40, 0x20)
		x.lay(t, 0x40, 0x00, 0x30)
		x.lay(t, 0x45, 0x00, 0x31)
		r := api.Regs{X: 5, S: 0x80, PC: 0x1000, P: flags("U")}
		is(t, fmt.Sprintf("reads of %02x", op), x.jamEverywhere(t, "counted", r, 0, false), want)
	}
}

// P2502: at both reads of each interrupt, with S anywhere.
func TestJamOfInterrupts(t *testing.T) {
	g := rand.New(rand.NewSource(2))
	x := newScene(t, g)
	for range 300 {
		r := anyRegs(g)
		x.jamEverywhere(t, "an NMI", r, g.Intn(2)*5, true)
		r.P &^= api.FlagI
		x.jamEverywhere(t, "an interrupt", r, 1<<g.Intn(8), false)
	}
}

// P2502: what was pushed stays, the NMI is gone, and behind a Reset the line alone is on.
func TestJamOfAnNmi(t *testing.T) {
	for _, at := range []int{65530, 65531} {
		m := allRam(t)
		lay(t, m, 65530, 0x00, 0x03, 0x00, 0x02, 0x00, 0x04)
		lay(t, m, 0x200, 0x58)
		spoil(t, m, at)
		c := over(t, m)
		r := api.Regs{A: 1, PC: 0x5678, S: 0x01, P: flags("NU")}
		c.Restore(r, 50, 1, true, api.OK)
		wantNoStep(t, "an NMI", c, api.ErrParity)
		wantLines(t, "an NMI", c, 1, false)
		for place, want := range map[int]byte{0x101: 0x56, 0x100: 0x78, 0x1ff: flags("NU")} {
			b, e := m.Peek(place)
			is(t, "pushed", []any{b, e}, []any{want, api.OK})
		}
		is(t, "Reset", c.Reset(), api.OK)
		r = api.Regs{A: 1, PC: 0x200, S: 0xfd, P: flags("NUI")}
		behind := api.Regs{A: 1, PC: 0x201, S: 0xfd, P: flags("NU")}
		wantStep(t, "CLI", c, cpu.Step{Bytes: []byte{0x58}, Cycles: 2, Before: r, After: behind})
		handler := api.Regs{A: 1, PC: 0x400, S: 0xfa, P: flags("NUI")}
		wantStep(t, "the line", c, cpu.Step{Kind: cpu.Irq, Cycles: 7, Before: behind, After: handler})
	}
}

// P2502: one turned bit is mended, and nothing jams.
func TestOneTurnedBitIsNoJam(t *testing.T) {
	g := rand.New(rand.NewSource(3))
	for range 30 {
		x := newScene(t, g)
		for at := range 65536 {
			x.m.Turn(at, g.Intn(13))
		}
		x.s.r = anyRegs(g)
		x.lay(t, int(x.s.r.PC), 0xfe, 0x90, 0x12) // INC
		x.m.Turn(int(x.s.r.PC), 4)
		x.c.Set(x.s.r)
		want, _ := x.s.step()
		wantStep(t, "INC", x.c, want)
	}
}

// P2502: a place that is nothing is read as 255, and what is written to what takes none is gone.
func TestNothingAndRom(t *testing.T) {
	m := made(t, mem.Region{From: 0, To: 1024, Kind: mem.Ram}, mem.Region{From: 1024, To: 2048, Kind: mem.Rom}, mem.Region{From: 2048, To: 2050, Kind: mem.Port})
	lay(t, m, 1029, 0x41)
	c := over(t, m)
	for _, x := range []struct {
		what   string
		b      []byte
		cycles int
		behind api.Regs
	}{
		{"LDA of nothing", []byte{0xad, 0x00, 0x40}, 4, api.Regs{A: 0xff, P: flags("UN")}},
		{"LDA of a port that has nothing", []byte{0xad, 0x01, 0x08}, 4, api.Regs{A: 0xff, P: flags("UN")}},
		{"INC of nothing", []byte{0xee, 0x00, 0x40}, 6, api.Regs{A: 7, P: flags("UZ")}},
		{"INC of ROM", []byte{0xee, 0x05, 0x04}, 6, api.Regs{A: 7, P: flags("U")}},
		{"STA to ROM", []byte{0x8d, 0x05, 0x04}, 4, api.Regs{A: 7, P: flags("U")}},
		{"STA to nothing", []byte{0x8d, 0x00, 0x40}, 4, api.Regs{A: 7, P: flags("U")}},
		{"STA to a port that has nothing", []byte{0x8d, 0x00, 0x08}, 4, api.Regs{A: 7, P: flags("U")}},
		{"LDA of ROM", []byte{0xad, 0x05, 0x04}, 4, api.Regs{A: 0x41, P: flags("U")}},
		{"JMP through nothing", []byte{0x6c, 0x00, 0x40}, 5, api.Regs{A: 7, PC: 0xffff, P: flags("U")}},
		{"BRK to nothing", []byte{0x00}, 7, api.Regs{A: 7, S: 0xfd, PC: 0xffff, P: flags("UI")}},
	} {
		lay(t, m, 0x200, x.b...)
		r := api.Regs{A: 7, PC: 0x200, P: flags("U")}
		c.Set(r)
		if x.behind.PC == 0 {
			x.behind.PC = 0x203
		}
		wantStep(t, x.what, c, cpu.Step{Bytes: x.b, Cycles: x.cycles, Before: r, After: x.behind})
	}
	b, e := m.Peek(1029)
	is(t, "ROM", []any{b, e}, []any{byte(0x41), api.OK})
	c.Set(api.Regs{PC: 0x4000})
	wantNoStep(t, "an opcode of nothing (255) has no instruction", c, api.ErrJam)
	is(t, "Reset to nothing", c.Reset(), api.OK)
	is(t, "PC", c.Regs().PC, uint16(0xffff))
}

// P2502: pushes to what takes none go on, and what is pulled of nothing is 255.
func TestStackOfNothing(t *testing.T) {
	m := made(t, mem.Region{From: 0, To: 256, Kind: mem.Ram}, mem.Region{From: 512, To: 1024, Kind: mem.Ram})
	lay(t, m, 0x200, 0x20, 0x10, 0x02)
	lay(t, m, 0x210, 0x60)
	c := over(t, m)
	first := api.Regs{PC: 0x200, P: flags("U")}
	called := api.Regs{PC: 0x210, S: 0xfe, P: flags("U")}
	back := api.Regs{PC: 0, P: flags("U")}
	c.Set(first)
	wantStep(t, "JSR", c, cpu.Step{Bytes: []byte{0x20, 0x10, 0x02}, Cycles: 6, Before: first, After: called})
	wantStep(t, "RTS", c, cpu.Step{Bytes: []byte{0x60}, Cycles: 6, Before: called, After: back})
}
