package cpu_test

import (
	"reflect"
	"testing"

	"orrery/api"
	"orrery/cpu"
	"orrery/mem"
)

// flags: by their letters.
func flags(letters string) byte {
	names := map[rune]byte{
		'N': api.FlagN, 'V': api.FlagV, 'U': api.FlagU, 'B': api.FlagB,
		'D': api.FlagD, 'I': api.FlagI, 'Z': api.FlagZ, 'C': api.FlagC,
	}
	p := byte(0)
	for _, letter := range letters {
		p |= names[letter]
	}
	return p
}

func is(t testing.TB, what string, got, want any) {
	t.Helper()
	if !reflect.DeepEqual(got, want) {
		t.Errorf("%s: %v, not %v", what, got, want)
	}
}

// access: a place that was read or written, with what was there, or came there.
type access struct {
	write bool
	at    int
	b     byte
}

func reads(at int, b byte) access  { return access{false, at, b} }
func writes(at int, b byte) access { return access{true, at, b} }

// field: a memory of one port, which tells all that is read and written.
type field struct {
	memory *mem.Memory
	bytes  [65536]byte
	log    []access
}

func newField(t testing.TB) *field {
	t.Helper()
	f := &field{memory: made(t, mem.Region{From: 0, To: 65536, Kind: mem.Port})}
	is(t, "Attach", f.memory.Attach(0, f.get, f.put), api.OK)
	return f
}

func (f *field) get(at int) byte {
	f.log = append(f.log, reads(at, f.bytes[at]))
	return f.bytes[at]
}

func (f *field) put(at int, b byte) {
	f.log = append(f.log, writes(at, b))
	f.bytes[at] = b
}

// lay: bytes at a place, round the end.
func (f *field) lay(at int, list ...byte) {
	for i, b := range list {
		f.bytes[(at+i)%65536] = b
	}
}

// told: what was read and written since the last time.
func (f *field) told() []access {
	log := f.log
	f.log = nil
	return log
}

func made(t testing.TB, list ...mem.Region) *mem.Memory {
	t.Helper()
	m, e := mem.New(list)
	if m == nil || e != api.OK {
		t.Fatalf("mem.New(%v): %v", list, e)
	}
	return m
}

// allRam: 65536 places of RAM.
func allRam(t testing.TB) *mem.Memory {
	return made(t, mem.Region{From: 0, To: 65536, Kind: mem.Ram})
}

func lay(t testing.TB, m *mem.Memory, at int, list ...byte) {
	t.Helper()
	is(t, "Load", m.Load([]api.Segment{{At: at, Bytes: list}}), api.OK)
}

// spoil: a cell that can not be mended.
func spoil(t testing.TB, m *mem.Memory, at int) {
	t.Helper()
	is(t, "Turn", m.Turn(at, 2), api.OK)
	is(t, "Turn", m.Turn(at, 7), api.OK)
}

func over(t testing.TB, m *mem.Memory) *cpu.CPU {
	t.Helper()
	c, e := cpu.New(m)
	if c == nil || e != api.OK {
		t.Fatalf("New: %v", e)
	}
	return c
}

// wantStep: it is done so.
func wantStep(t testing.TB, what string, c *cpu.CPU, want cpu.Step) {
	t.Helper()
	before := c.Cycles()
	s, e := c.Step()
	if e != api.OK || !reflect.DeepEqual(s, want) {
		t.Errorf("%s: %+v, %v, not %+v", what, s, e, want)
	}
	is(t, what+": Regs", c.Regs(), want.After)
	is(t, what+": Cycles", c.Cycles(), before+uint64(want.Cycles))
	is(t, what+": Jam", c.Jam(), api.OK)
}

// wantNoStep: the error, and nothing is as it was not.
func wantNoStep(t testing.TB, what string, c *cpu.CPU, want api.Errno) {
	t.Helper()
	r, cycles := c.Regs(), c.Cycles()
	s, e := c.Step()
	if e != want || !reflect.DeepEqual(s, cpu.Step{}) {
		t.Errorf("%s: %+v, %v, not %v", what, s, e, want)
	}
	is(t, what+": Regs", c.Regs(), r)
	is(t, what+": Cycles", c.Cycles(), cycles)
	is(t, what+": Jam", c.Jam(), want)
}

// example: the chapter's memory.
func example(t testing.TB) (*mem.Memory, *cpu.CPU) {
	t.Helper()
	m := made(t,
		mem.Region{From: 0, To: 256, Kind: mem.Ram},
		mem.Region{From: 256, To: 1024, Kind: mem.Ram},
		mem.Region{From: 65280, To: 65536, Kind: mem.Rom})
	lay(t, m, 65530, 0x00, 0x03, 0x00, 0x02, 0x10, 0x03)
	return m, over(t, m)
}

func TestExamples(t *testing.T) {
	m, c := example(t)
	is(t, "Reset", c.Reset(), api.OK)
	is(t, "Reset: Regs", c.Regs(), api.Regs{PC: 0x200, S: 0xfd, P: flags("UI")})
	is(t, "Reset: Cycles", c.Cycles(), uint64(7))

	lay(t, m, 0x200, 0xa9, 0x80)
	ahead, behind := c.Regs(), api.Regs{A: 0x80, PC: 0x202, S: 0xfd, P: flags("NUI")}
	wantStep(t, "LDA #$80", c, cpu.Step{Bytes: []byte{0xa9, 0x80}, Cycles: 2, Before: ahead, After: behind})

	lay(t, m, 0x210, 0x6c, 0xff, 0x01)
	lay(t, m, 0x1ff, 0x34)
	lay(t, m, 0x100, 0x12)
	ahead = api.Regs{PC: 0x210, S: 0xfd, P: flags("U")}
	c.Set(ahead)
	behind = ahead
	behind.PC = 0x1234
	wantStep(t, "JMP ($01FF)", c, cpu.Step{Bytes: []byte{0x6c, 0xff, 0x01}, Cycles: 5, Before: ahead, After: behind})

	lay(t, m, 0x2fd, 0xd0, 0xfe)
	ahead = api.Regs{PC: 0x2fd, S: 0xfd, P: flags("U")}
	c.Set(ahead)
	wantStep(t, "BNE", c, cpu.Step{Bytes: []byte{0xd0, 0xfe}, Cycles: 3, Before: ahead, After: ahead})

	lay(t, m, 0x220, 2)
	c.Set(api.Regs{PC: 0x220})
	wantNoStep(t, "02", c, api.ErrJam)
	wantNoStep(t, "02 again", c, api.ErrJam)
	is(t, "Reset", c.Reset(), api.OK)
	is(t, "Reset: Jam", c.Jam(), api.OK)

	ahead = api.Regs{A: 1, X: 2, Y: 3, PC: 0x234, S: 0xfd, P: flags("NUC")}
	c.Set(ahead)
	is(t, "Irq", c.Irq(0, true), api.OK)
	behind = api.Regs{A: 1, X: 2, Y: 3, PC: 0x310, S: 0xfa, P: flags("NUIC")}
	wantStep(t, "an interrupt", c, cpu.Step{Kind: cpu.Irq, Cycles: 7, Before: ahead, After: behind})
	for at, want := range map[int]byte{0x1fd: 0x02, 0x1fc: 0x34, 0x1fb: flags("NUC")} {
		b, e := m.Peek(at)
		is(t, "pushed", []any{b, e}, []any{want, api.OK})
	}
}

// P2501.
func TestNew(t *testing.T) {
	c, e := cpu.New(nil)
	if c != nil || e != api.ErrNil {
		t.Errorf("New(nil): %v, %v", c, e)
	}
	f := newField(t)
	c = over(t, f.memory)
	is(t, "Regs", c.Regs(), api.Regs{P: flags("UI")})
	is(t, "Cycles", c.Cycles(), uint64(0))
	is(t, "Jam", c.Jam(), api.OK)
	lines, nmi := c.Lines()
	is(t, "Lines", []any{lines, nmi}, []any{0, false})
	is(t, "New looks at no place", len(f.told()), 0)
}

// P2501: the memory is shared, and whatever stands there is what is done.
func TestMemoryIsNoCopy(t *testing.T) {
	m := allRam(t)
	c, d := over(t, m), over(t, m)
	lay(t, m, 0, 0xe6, 0x80, 0xe6, 0x80)
	for _, one := range []*cpu.CPU{c, d, c} {
		if _, e := one.Step(); e != api.OK {
			t.Fatal(e)
		}
		lay(t, m, 4, 0xea)
	}
	b, _ := m.Peek(0x80)
	is(t, "counted", b, byte(3))
	is(t, "PC", []uint16{c.Regs().PC, d.Regs().PC}, []uint16{4, 2})
}

// P2501: A, X, Y, the other flags, and the lines stay.
func TestReset(t *testing.T) {
	f := newField(t)
	f.lay(65532, 0xcd, 0xab)
	c := over(t, f.memory)
	for _, p := range []string{"", "I", "NVDZC", "NVDIZCB"} {
		before := api.Regs{A: 1, X: 2, Y: 3, S: 4, PC: 0x5678, P: flags(p)}
		is(t, "Restore", c.Restore(before, 100, 0x81, true, api.OK), api.OK)
		f.told()
		is(t, "Reset", c.Reset(), api.OK)
		is(t, "Regs", c.Regs(), api.Regs{A: 1, X: 2, Y: 3, S: 0xfd, PC: 0xabcd, P: flags(p+"IU") &^ api.FlagB})
		is(t, "Cycles", c.Cycles(), uint64(107))
		lines, nmi := c.Lines()
		is(t, "Lines", []any{lines, nmi}, []any{0x81, false})
		is(t, "what the port sees", f.told(), []access{reads(65532, 0xcd), reads(65533, 0xab)})
	}
}

// P2501: of a jammed one, by each jam.
func TestResetOfJammed(t *testing.T) {
	m := allRam(t)
	lay(t, m, 65532, 0x00, 0x02)
	lay(t, m, 0x200, 0xea)
	for _, jam := range []api.Errno{api.ErrJam, api.ErrParity} {
		c := over(t, m)
		c.Restore(api.Regs{PC: 0x1000}, 1<<64-3, 0, true, jam)
		wantNoStep(t, "jammed", c, jam)
		is(t, "Reset", c.Reset(), api.OK)
		is(t, "Jam", c.Jam(), api.OK)
		is(t, "Cycles", c.Cycles(), uint64(4))
		r := api.Regs{PC: 0x200, S: 0xfd, P: flags("UI")}
		behind := r
		behind.PC++
		wantStep(t, "NOP", c, cpu.Step{Bytes: []byte{0xea}, Cycles: 2, Before: r, After: behind})
	}
}

// P2501: S, FlagI, PC and Cycles stay; no NMI waits, and a jam of another kind is gone.
func TestResetThatJams(t *testing.T) {
	for _, at := range []int{65532, 65533} {
		for _, jam := range []api.Errno{api.OK, api.ErrJam, api.ErrParity} {
			m := allRam(t)
			lay(t, m, 65532, 0x00, 0x02)
			spoil(t, m, at)
			c := over(t, m)
			r := api.Regs{A: 1, X: 2, Y: 3, S: 4, PC: 0x5678, P: flags("NUC")}
			c.Restore(r, 9, 3, true, jam)
			for range 2 {
				is(t, "Reset", c.Reset(), api.ErrParity)
				is(t, "Regs", c.Regs(), r)
				is(t, "Cycles", c.Cycles(), uint64(9))
				is(t, "Jam", c.Jam(), api.ErrParity)
				lines, nmi := c.Lines()
				is(t, "Lines", []any{lines, nmi}, []any{3, false})
				wantNoStep(t, "jammed", c, api.ErrParity)
			}
			lay(t, m, at, 0x03)
			wantNoStep(t, "until Reset", c, api.ErrParity)
			is(t, "Reset", c.Reset(), api.OK)
			is(t, "Cycles", c.Cycles(), uint64(16))
		}
	}
}

// P2501, P2502, P2505: what a nil one answers.
func TestNil(t *testing.T) {
	var c *cpu.CPU
	is(t, "Reset", c.Reset(), api.ErrNil)
	s, e := c.Step()
	is(t, "Step", []any{s, e}, []any{cpu.Step{}, api.ErrNil})
	for _, line := range []int{-1, 0, 7, 8} {
		is(t, "Irq", c.Irq(line, true), api.ErrNil)
		is(t, "Irq", c.Irq(line, false), api.ErrNil)
	}
	is(t, "Nmi", c.Nmi(), api.ErrNil)
	is(t, "Regs", c.Regs(), api.Regs{})
	is(t, "Set", c.Set(api.Regs{A: 1}), api.ErrNil)
	is(t, "Cycles", c.Cycles(), uint64(0))
	is(t, "Jam", c.Jam(), api.ErrNil)
	lines, nmi := c.Lines()
	is(t, "Lines", []any{lines, nmi}, []any{0, false})
	is(t, "Restore", c.Restore(api.Regs{}, 1, 1, true, api.OK), api.ErrNil)
	is(t, "Restore", c.Restore(api.Regs{}, 1, 256, true, api.ErrArg), api.ErrNil)
}
