package cpu_test

import (
	"slices"
	"testing"

	"orrery/api"
	"orrery/cpu"
	"orrery/modes"
)

// Rule 4: what a step hands out is the caller's, its spare room too.
func TestStepsAreTheCallers(t *testing.T) {
	m := allRam(t)
	lay(t, m, 0x200, 0xbd, 0x00, 0x03, 0x9d, 0x00, 0x04, 0xe8, 0x4c, 0x00, 0x02)
	scribbled, left := over(t, m), over(t, m)
	r := api.Regs{PC: 0x200, P: flags("U")}
	scribbled.Set(r)
	left.Set(r)
	var kept []cpu.Step
	var copies []cpu.Step
	for range 40 {
		s, e := scribbled.Step()
		again, f := left.Step()
		is(t, "Step", []any{s, e}, []any{again, f})
		again.Bytes = slices.Clone(again.Bytes)
		kept, copies = append(kept, s), append(copies, again)
		if len(kept)%2 == 0 {
			room := s.Bytes[:cap(s.Bytes)]
			for i := range room {
				room[i] = 2
			}
			kept, copies = kept[:len(kept)-1], copies[:len(copies)-1]
		}
	}
	is(t, "those that nobody wrote into", kept, copies)
	b, _ := m.Peek(0x200)
	is(t, "the memory", b, byte(0xbd))
}

// Rule 4: what Address is handed stays, its spare room too.
func TestBytesHandedInStay(t *testing.T) {
	f := newField(t)
	for way, n := range size {
		room := []byte{1, 2, 3, 4, 5, 6}
		before := slices.Clone(room)
		cpu.Address(f.memory, api.Regs{X: 9, Y: 8}, modeOf[way], room[:n-1])
		is(t, way, room, before)
	}
	cpu.Address(f.memory, api.Regs{}, modes.Imp, nil)
}

// Rule 5: two processors over one memory share nothing else.
func TestTwoShareNothing(t *testing.T) {
	m := allRam(t)
	lay(t, m, 0, 0xea, 0x02)
	c, d := over(t, m), over(t, m)
	d.Restore(api.Regs{A: 1, PC: 0}, 5, 0, false, api.OK)
	c.Nmi()
	c.Irq(4, true)
	c.Restore(api.Regs{A: 7, PC: 1}, 50, 16, true, api.ErrParity)
	wantLines(t, "Lines", d, 0, false)
	is(t, "Jam", d.Jam(), api.OK)
	is(t, "Cycles", d.Cycles(), uint64(5))
	r := api.Regs{A: 1, PC: 0, P: flags("U")}
	wantStep(t, "NOP", d, cpu.Step{Bytes: list(0xea), Cycles: 2, Before: r, After: api.Regs{A: 1, PC: 1, P: flags("U")}})
	wantNoStep(t, "02", d, api.ErrJam)
	is(t, "Jam", c.Jam(), api.ErrParity)
	is(t, "Reset", c.Reset(), api.OK)
	is(t, "Jam", d.Jam(), api.ErrJam)
}
