package cpu_test

import (
	"testing"

	"orrery/api"
	"orrery/cpu"
)

// bell: a field with an NMI to 0300, BRK and lines to 0400, and NOPs at 0200.
func bell(t testing.TB) (*field, *cpu.CPU) {
	t.Helper()
	f := newField(t)
	f.lay(65530, 0x00, 0x03, 0x00, 0x02, 0x00, 0x04)
	f.lay(0x200, 0xea, 0xea, 0xea, 0xea)
	f.lay(0x300, 0x40) // RTI
	f.lay(0x400, 0x40)
	return f, over(t, f.memory)
}

// P2502, P2506: the pushes and the vector, in that order, with no look at PC; P with FlagU alone.
func TestInterrupt(t *testing.T) {
	f, c := bell(t)
	r := api.Regs{A: 9, X: 8, Y: 7, S: 0xfd, PC: 0x1234, P: flags("NVUDZC")}
	behind := r
	behind.S, behind.PC, behind.P = 0xfa, 0x400, flags("NVUDIZC")
	for line := range 8 {
		c.Restore(r, 0, 1<<line, false, api.OK)
		wantStep(t, "an interrupt", c, cpu.Step{Kind: cpu.Irq, Cycles: 7, Before: r, After: behind})
		is(t, "what the port sees", f.told(), []access{
			writes(0x1fd, 0x12), writes(0x1fc, 0x34), writes(0x1fb, flags("NVUDZC")), reads(65534, 0x00), reads(65535, 0x04)})
		wantLines(t, "the line stays on", c, 1<<line, false)
	}
	for _, p := range []string{"NVUDZC", "NVUDIZC", "U", "UI"} {
		r.P = flags(p)
		behind.P = r.P | api.FlagI
		behind.PC = 0x300
		c.Restore(r, 0, 0, true, api.OK)
		wantStep(t, "an NMI", c, cpu.Step{Kind: cpu.Nmi, Cycles: 7, Before: r, After: behind})
		is(t, "what the port sees", f.told(), []access{
			writes(0x1fd, 0x12), writes(0x1fc, 0x34), writes(0x1fb, flags(p)), reads(65530, 0x00), reads(65531, 0x03)})
		wantLines(t, "it waits no more", c, 0, false)
	}
}

// P2502: S goes round under the pushes.
func TestInterruptAtTheStacksEnd(t *testing.T) {
	f, c := bell(t)
	for s, places := range map[byte][3]int{0: {0x100, 0x1ff, 0x1fe}, 1: {0x101, 0x100, 0x1ff}, 2: {0x102, 0x101, 0x100}, 255: {0x1ff, 0x1fe, 0x1fd}} {
		r := api.Regs{S: s, PC: 0xabcd, P: flags("U")}
		c.Restore(r, 0, 128, false, api.OK)
		wantStep(t, "an interrupt", c, cpu.Step{Kind: cpu.Irq, Cycles: 7, Before: r, After: api.Regs{S: s - 3, PC: 0x400, P: flags("UI")}})
		is(t, "what the port sees", f.told()[:3], []access{writes(places[0], 0xab), writes(places[1], 0xcd), writes(places[2], flags("U"))})
	}
}

// P2502: a line waits while FlagI is set; an NMI does not.
func TestFlagI(t *testing.T) {
	_, c := bell(t)
	r := api.Regs{S: 0xfd, PC: 0x200, P: flags("UI")}
	behind := api.Regs{S: 0xfd, PC: 0x201, P: flags("UI")}
	nop := cpu.Step{Bytes: []byte{0xea}, Cycles: 2, Before: r, After: behind}
	c.Restore(r, 0, 255, false, api.OK)
	wantStep(t, "FlagI is set", c, nop)
	c.Restore(r, 0, 0, false, api.OK)
	wantStep(t, "no line is on", c, nop)
	r.P, behind.P = flags("U"), flags("U")
	nop.Before, nop.After = r, behind
	c.Restore(r, 0, 0, false, api.OK)
	wantStep(t, "no line is on, FlagI is not set", c, nop)
	c.Restore(r, 0, 4, false, api.OK)
	c.Irq(2, false)
	wantStep(t, "the line went off", c, nop)
}

// P2502, P2505: of an NMI and a line the NMI comes first, then, as its RTI has laid FlagI back, the line; two NMIs are one.
func TestNmiAndLine(t *testing.T) {
	_, c := bell(t)
	main := api.Regs{S: 0xfd, PC: 0x200, P: flags("UC")}
	inNmi := api.Regs{S: 0xfa, PC: 0x300, P: flags("UIC")}
	inIrq := api.Regs{S: 0xfa, PC: 0x400, P: flags("UIC")}
	c.Restore(main, 0, 0, false, api.OK)
	c.Nmi()
	c.Irq(5, true)
	c.Nmi()
	rti := func(from api.Regs) cpu.Step {
		return cpu.Step{Bytes: []byte{0x40}, Cycles: 6, Before: from, After: main}
	}
	wantStep(t, "the NMI", c, cpu.Step{Kind: cpu.Nmi, Cycles: 7, Before: main, After: inNmi})
	wantStep(t, "its RTI", c, rti(inNmi))
	wantStep(t, "the line", c, cpu.Step{Kind: cpu.Irq, Cycles: 7, Before: main, After: inIrq})
	c.Irq(5, false)
	wantStep(t, "its RTI", c, rti(inIrq))
	wantStep(t, "NOP", c, cpu.Step{Bytes: []byte{0xea}, Cycles: 2, Before: main, After: api.Regs{S: 0xfd, PC: 0x201, P: flags("UC")}})
}

// P2502: an NMI goes into the line's interrupt, and the line comes again as long as it is on.
func TestNmiWithinLine(t *testing.T) {
	_, c := bell(t)
	main := api.Regs{S: 0x01, PC: 0x200, P: flags("U")}
	inIrq := api.Regs{S: 0xfe, PC: 0x400, P: flags("UI")}
	inBoth := api.Regs{S: 0xfb, PC: 0x300, P: flags("UI")}
	c.Restore(main, 0, 1, false, api.OK)
	for range 3 {
		wantStep(t, "the line", c, cpu.Step{Kind: cpu.Irq, Cycles: 7, Before: main, After: inIrq})
		c.Nmi()
		wantStep(t, "the NMI", c, cpu.Step{Kind: cpu.Nmi, Cycles: 7, Before: inIrq, After: inBoth})
		wantStep(t, "its RTI", c, cpu.Step{Bytes: []byte{0x40}, Cycles: 6, Before: inBoth, After: inIrq})
		wantStep(t, "the line's RTI", c, cpu.Step{Bytes: []byte{0x40}, Cycles: 6, Before: inIrq, After: main})
	}
}

// P2502: CLI, SEI and PLP matter to the very next step.
func TestFlagIAtOnce(t *testing.T) {
	f, c := bell(t)
	f.lay(0x200, 0x58, 0x78, 0x28)
	f.lay(0x1fe, 0x00)
	c.Restore(api.Regs{S: 0xfd, PC: 0x200, P: flags("UI")}, 0, 1, false, api.OK)
	kinds := func(n int) (list []int) {
		for range n {
			s, _ := c.Step()
			list = append(list, s.Kind)
		}
		return list
	}
	is(t, "CLI", kinds(2), []int{cpu.Plain, cpu.Irq})
	c.Restore(api.Regs{S: 0xfd, PC: 0x202, P: flags("UI")}, 0, 1, false, api.OK)
	is(t, "PLP", kinds(2), []int{cpu.Plain, cpu.Irq})
	c.Restore(api.Regs{S: 0xfd, PC: 0x201, P: flags("U")}, 0, 0, false, api.OK)
	is(t, "SEI", kinds(1), []int{cpu.Plain})
	c.Irq(0, true)
	is(t, "behind SEI", kinds(1), []int{cpu.Plain})
}

// P2505: what a port's functions do to lines while a step goes on is there behind it, an NMI within an NMI too.
func TestLinesWithinAStep(t *testing.T) {
	f := newField(t)
	f.lay(65530, 0x00, 0x03)
	c := over(t, f.memory)
	r := api.Regs{S: 0xfd, PC: 0x200, P: flags("U")}
	c.Restore(r, 0, 0, true, api.OK)
	f.memory.Attach(0, f.get, func(at int, b byte) {
		f.put(at, b)
		c.Nmi()
		c.Irq(3, true)
	})
	for range 2 {
		s, e := c.Step()
		is(t, "an NMI", []any{s.Kind, e}, []any{cpu.Nmi, api.OK})
		wantLines(t, "one waits", c, 8, true)
	}
}
