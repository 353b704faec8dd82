package cpu_test

import (
	"testing"

	"orrery/api"
	"orrery/cpu"
)

func wantLines(t *testing.T, what string, c *cpu.CPU, lines int, nmi bool) {
	t.Helper()
	gotLines, gotNmi := c.Lines()
	is(t, what, []any{gotLines, gotNmi}, []any{lines, nmi})
}

// P2505.
func TestLines(t *testing.T) {
	c := over(t, newField(t).memory)
	wantLines(t, "New", c, 0, false)
	for _, line := range []int{-1, 8, 9, 63, 64, -8, 256, -1 << 63, 1<<63 - 1} {
		for _, on := range []bool{true, false} {
			is(t, "no line", c.Irq(line, on), api.ErrArg)
			wantLines(t, "no line", c, 0, false)
		}
	}
	lines := 0
	for line := range 8 {
		for range 2 { // on twice is on
			is(t, "on", c.Irq(line, true), api.OK)
			lines |= 1 << line
			wantLines(t, "on", c, lines, false)
		}
	}
	is(t, "Nmi", c.Nmi(), api.OK)
	wantLines(t, "Nmi", c, 255, true)
	for _, line := range []int{-1, 8, 64} {
		is(t, "no line", c.Irq(line, false), api.ErrArg)
		wantLines(t, "no line", c, 255, true)
	}
	for _, line := range []int{7, 0, 3, 1, 6, 5, 2, 4} {
		for range 2 {
			is(t, "off", c.Irq(line, false), api.OK)
			lines &^= 1 << line
			wantLines(t, "off", c, lines, true)
		}
	}
	is(t, "Nmi", c.Nmi(), api.OK)
	wantLines(t, "two are one", c, 0, true)
}

// P2505: P always has FlagU and never FlagB, whatever it is given.
func TestSet(t *testing.T) {
	f := newField(t)
	c := over(t, f.memory)
	c.Restore(api.Regs{}, 5, 9, true, api.ErrJam)
	for p := range 256 {
		r := api.Regs{A: byte(p), X: 0xff, Y: 0x80, S: byte(p * 7), PC: uint16(p * 257), P: byte(p)}
		is(t, "Set", c.Set(r), api.OK)
		r.P = r.P&0xcf | 0x20
		is(t, "Regs", c.Regs(), r)
	}
	is(t, "Cycles", c.Cycles(), uint64(5))
	is(t, "Jam", c.Jam(), api.ErrJam)
	wantLines(t, "Lines", c, 9, true)
	is(t, "no place is looked at", len(f.told()), 0)
}

// P2505: all at once.
func TestRestore(t *testing.T) {
	f := newField(t)
	c := over(t, f.memory)
	for p := range 256 {
		r := api.Regs{A: 1, X: byte(p), Y: 3, S: 0xff, PC: 65535, P: byte(p)}
		jam := []api.Errno{api.OK, api.ErrJam, api.ErrParity}[p%3]
		is(t, "Restore", c.Restore(r, uint64(p)<<56|7, p, p%2 == 1, jam), api.OK)
		r.P = r.P&0xcf | 0x20
		is(t, "Regs", c.Regs(), r)
		is(t, "Cycles", c.Cycles(), uint64(p)<<56|7)
		is(t, "Jam", c.Jam(), jam)
		wantLines(t, "Lines", c, p, p%2 == 1)
	}
	is(t, "no place is looked at", len(f.told()), 0)
}

// P2505: nothing is done then.
func TestRestoreErrors(t *testing.T) {
	c := over(t, newField(t).memory)
	r := api.Regs{A: 1, X: 2, Y: 3, S: 4, PC: 5, P: flags("UC")}
	unchanged := func(jam api.Errno) {
		t.Helper()
		is(t, "Regs", c.Regs(), r)
		is(t, "Cycles", c.Cycles(), uint64(77))
		is(t, "Jam", c.Jam(), jam)
		wantLines(t, "Lines", c, 33, true)
	}
	for _, jam := range []api.Errno{api.OK, api.ErrJam, api.ErrParity} {
		is(t, "Restore", c.Restore(r, 77, 33, true, jam), api.OK)
		for _, lines := range []int{-1, 256, 257, -256, 1 << 32, -1 << 63, 1<<63 - 1} {
			is(t, "lines", c.Restore(api.Regs{A: 9}, 1, lines, false, api.OK), api.ErrArg)
			unchanged(jam)
		}
		for no := api.Errno(-300); no < 600; no++ {
			if no == api.OK || no == api.ErrJam || no == api.ErrParity {
				continue
			}
			is(t, "jam", c.Restore(api.Regs{A: 9}, 1, 1, false, no), api.ErrArg)
			unchanged(jam)
		}
	}
}

// P2505: one that was restored as jammed stands still, and one that was not goes on, whatever it was.
func TestRestoredJam(t *testing.T) {
	f := newField(t)
	f.lay(0x200, 0xea, 0xea)
	c := over(t, f.memory)
	for _, jam := range []api.Errno{api.ErrJam, api.ErrParity} {
		c.Restore(api.Regs{PC: 0x200}, 0, 255, true, jam)
		f.told()
		for range 3 {
			wantNoStep(t, "jammed", c, jam)
		}
		c.Nmi()
		c.Irq(3, false)
		c.Set(api.Regs{PC: 0x201})
		wantNoStep(t, "jammed", c, jam)
		wantLines(t, "a jammed one takes no interrupt", c, 0xf7, true)
		is(t, "and looks at no place", len(f.told()), 0)
		c.Restore(api.Regs{PC: 0x200}, 0, 0, false, api.OK)
		r := api.Regs{PC: 0x200, P: flags("U")}
		wantStep(t, "NOP", c, cpu.Step{Bytes: []byte{0xea}, Cycles: 2, Before: r, After: api.Regs{PC: 0x201, P: flags("U")}})
	}
}

// P2505: what is looked at changes nothing.
func TestLooks(t *testing.T) {
	f := newField(t)
	c := over(t, f.memory)
	r := api.Regs{A: 1, PC: 0x300, P: flags("UZ")}
	c.Restore(r, 12, 5, true, api.OK)
	for range 3 {
		is(t, "Regs", c.Regs(), r)
		is(t, "Cycles", c.Cycles(), uint64(12))
		is(t, "Jam", c.Jam(), api.OK)
		wantLines(t, "Lines", c, 5, true)
	}
	is(t, "no place is looked at", len(f.told()), 0)
}
