package cpu

import "orrery/api"

const (
	mostLine  = 7
	mostLines = 255 // as bits
)

// told: P as it is told; FlagU and FlagB are no bits that it keeps.
func told(p byte) byte { return p&^api.FlagB | api.FlagU }

// Irq: P2505.
func (c *CPU) Irq(line int, on bool) api.Errno {
	if c == nil {
		return api.ErrNil
	}
	if line < 0 || line > mostLine {
		return api.ErrArg
	}
	if on {
		c.lines |= 1 << line
	} else {
		c.lines &^= 1 << line
	}
	return api.OK
}

// Nmi: P2505.
func (c *CPU) Nmi() api.Errno {
	if c == nil {
		return api.ErrNil
	}
	c.nmi = true
	return api.OK
}

// Regs: P2505.
func (c *CPU) Regs() api.Regs {
	if c == nil {
		return api.Regs{}
	}
	return c.regs
}

// Set: P2505.
func (c *CPU) Set(r api.Regs) api.Errno {
	if c == nil {
		return api.ErrNil
	}
	r.P = told(r.P)
	c.regs = r
	return api.OK
}

// Cycles: P2505.
func (c *CPU) Cycles() uint64 {
	if c == nil {
		return 0
	}
	return c.cycles
}

// Jam: P2505.
func (c *CPU) Jam() api.Errno {
	if c == nil {
		return api.ErrNil
	}
	return c.jammed
}

// Lines: P2505.
func (c *CPU) Lines() (int, bool) {
	if c == nil {
		return 0, false
	}
	return c.lines, c.nmi
}

// Restore: P2505.
func (c *CPU) Restore(r api.Regs, cycles uint64, lines int, nmi bool, jam api.Errno) api.Errno {
	if c == nil {
		return api.ErrNil
	}
	if lines < 0 || lines > mostLines || !canJam(jam) {
		return api.ErrArg
	}
	c.cycles, c.lines, c.nmi, c.jammed = cycles, lines, nmi, jam
	return c.Set(r)
}

func canJam(e api.Errno) bool { return e == api.OK || e == api.ErrJam || e == api.ErrParity }
