package cpu_test

import (
	"fmt"
	"testing"

	"orrery/api"
	"orrery/cpu"
)

// edge: one step, by hand: what stands at PC and elsewhere, the registers ahead of it and behind it, what is read and written behind the instruction's bytes.
type edge struct {
	b      []byte
	also   map[int]byte
	ahead  api.Regs
	behind api.Regs
	cycles int
	sees   []access
}

func (x edge) check(t *testing.T) {
	t.Helper()
	f := newField(t)
	for at, b := range x.also {
		f.lay(at, b)
	}
	f.lay(int(x.ahead.PC), x.b...)
	c := over(t, f.memory)
	x.ahead.P |= api.FlagU
	x.behind.P |= api.FlagU
	c.Set(x.ahead)
	what := fmt.Sprintf("% x at %+v", x.b, x.ahead)
	wantStep(t, what, c, cpu.Step{Bytes: x.b, Cycles: x.cycles, Before: x.ahead, After: x.behind})
	var sees []access
	for i, b := range x.b {
		sees = append(sees, reads((int(x.ahead.PC)+i)%65536, b))
	}
	is(t, what+": what the port sees", f.told(), append(sees, x.sees...))
}

// list: bytes.
func list(b ...byte) []byte { return b }

// P2504, P2506: P as it is pushed and pulled; S round at both ends.
func TestStack(t *testing.T) {
	all := flags("NVUBDIZC")
	for _, x := range []edge{
		{list(0x48), nil, api.Regs{A: 5, S: 0xff, PC: 9}, api.Regs{A: 5, S: 0xfe, PC: 10}, 3, []access{writes(0x1ff, 5)}},
		{list(0x48), nil, api.Regs{A: 0, S: 0x00, PC: 9, P: flags("N")}, api.Regs{S: 0xff, PC: 10, P: flags("N")}, 3, []access{writes(0x100, 0)}},
		{list(0x08), nil, api.Regs{S: 0x00, PC: 9}, api.Regs{S: 0xff, PC: 10}, 3, []access{writes(0x100, flags("UB"))}},
		{list(0x08), nil, api.Regs{S: 0x80, PC: 9, P: flags("NVDIZC")}, api.Regs{S: 0x7f, PC: 10, P: flags("NVDIZC")}, 3, []access{writes(0x180, all)}},
		{list(0x68), map[int]byte{0x100: 0x80}, api.Regs{S: 0xff, PC: 9, P: flags("ZC")}, api.Regs{A: 0x80, S: 0x00, PC: 10, P: flags("NC")}, 4, []access{reads(0x100, 0x80)}},
		{list(0x68), map[int]byte{0x101: 0x00}, api.Regs{A: 9, S: 0x00, PC: 9, P: flags("NV")}, api.Regs{S: 0x01, PC: 10, P: flags("ZV")}, 4, []access{reads(0x101, 0)}},
		{list(0x68), map[int]byte{0x1ff: 0x7f}, api.Regs{S: 0xfe, PC: 9, P: flags("NZ")}, api.Regs{A: 0x7f, S: 0xff, PC: 10}, 4, []access{reads(0x1ff, 0x7f)}},
		{list(0x28), map[int]byte{0x100: all}, api.Regs{S: 0xff, PC: 9}, api.Regs{S: 0x00, PC: 10, P: flags("NVDIZC")}, 4, []access{reads(0x100, all)}},
		{list(0x28), map[int]byte{0x101: 0x00}, api.Regs{S: 0x00, PC: 9, P: flags("NVDIZC")}, api.Regs{S: 0x01, PC: 10}, 4, []access{reads(0x101, 0)}},
		{list(0x28), map[int]byte{0x150: flags("B")}, api.Regs{S: 0x4f, PC: 9}, api.Regs{S: 0x50, PC: 10}, 4, []access{reads(0x150, flags("B"))}},
		{list(0x9a), nil, api.Regs{X: 0, S: 0xff, PC: 9, P: flags("N")}, api.Regs{S: 0, PC: 10, P: flags("N")}, 2, nil},
		{list(0x9a), nil, api.Regs{X: 0x80, S: 0xff, PC: 9, P: flags("Z")}, api.Regs{X: 0x80, S: 0x80, PC: 10, P: flags("Z")}, 2, nil},
		{list(0xba), nil, api.Regs{X: 0, S: 0x80, PC: 9, P: flags("Z")}, api.Regs{X: 0x80, S: 0x80, PC: 10, P: flags("N")}, 2, nil},
		{list(0xba), nil, api.Regs{X: 7, S: 0x00, PC: 9, P: flags("N")}, api.Regs{PC: 10, P: flags("Z")}, 2, nil},
	} {
		x.check(t)
	}
}

// P2504, P2506: JSR and RTS, BRK and RTI; PC and S round.
func TestWaysAndBack(t *testing.T) {
	vector := map[int]byte{0xfffe: 0x34, 0xffff: 0x12}
	look := []access{reads(0xfffe, 0x34), reads(0xffff, 0x12)}
	for _, x := range []edge{
		{list(0x20, 0x34, 0x12), nil, api.Regs{S: 0xff, PC: 0x2000}, api.Regs{S: 0xfd, PC: 0x1234}, 6, []access{writes(0x1ff, 0x20), writes(0x1fe, 0x02)}},
		{list(0x20, 0x34, 0x12), nil, api.Regs{S: 0x00, PC: 0x20fe}, api.Regs{S: 0xfe, PC: 0x1234}, 6, []access{writes(0x100, 0x21), writes(0x1ff, 0x00)}},
		{list(0x20, 0x34, 0x12), nil, api.Regs{S: 0x01, PC: 0xfffd}, api.Regs{S: 0xff, PC: 0x1234}, 6, []access{writes(0x101, 0xff), writes(0x100, 0xff)}},
		{list(0x20, 0x34, 0x12), nil, api.Regs{S: 0x02, PC: 0xffff}, api.Regs{S: 0x00, PC: 0x1234}, 6, []access{writes(0x102, 0x00), writes(0x101, 0x01)}},
		{list(0x20, 0x00, 0x02), nil, api.Regs{S: 0x02, PC: 0x0100}, api.Regs{S: 0x00, PC: 0x0200}, 6, []access{writes(0x102, 0x01), writes(0x101, 0x02)}},
		{list(0x60), map[int]byte{0x100: 0x02, 0x101: 0x20}, api.Regs{S: 0xff, PC: 9}, api.Regs{S: 0x01, PC: 0x2003}, 6, []access{reads(0x100, 0x02), reads(0x101, 0x20)}},
		{list(0x60), map[int]byte{0x1ff: 0xff, 0x100: 0x20}, api.Regs{S: 0xfe, PC: 9}, api.Regs{S: 0x00, PC: 0x2100}, 6, []access{reads(0x1ff, 0xff), reads(0x100, 0x20)}},
		{list(0x60), map[int]byte{0x101: 0xff, 0x102: 0xff}, api.Regs{S: 0x00, PC: 9, P: flags("NC")}, api.Regs{S: 0x02, PC: 0x0000, P: flags("NC")}, 6, []access{reads(0x101, 0xff), reads(0x102, 0xff)}},
		{list(0x40), map[int]byte{0x100: 0xff, 0x101: 0x78, 0x102: 0x56}, api.Regs{S: 0xff, PC: 9}, api.Regs{S: 0x02, PC: 0x5678, P: flags("NVDIZC")}, 6, []access{reads(0x100, 0xff), reads(0x101, 0x78), reads(0x102, 0x56)}},
		{list(0x40), map[int]byte{0x1fe: 0x00, 0x1ff: 0x78, 0x100: 0x56}, api.Regs{S: 0xfd, PC: 9, P: flags("NVDIZC")}, api.Regs{S: 0x00, PC: 0x5678}, 6, []access{reads(0x1fe, 0), reads(0x1ff, 0x78), reads(0x100, 0x56)}},
		{list(0x40), map[int]byte{0x101: 0x31, 0x102: 0xff, 0x103: 0xff}, api.Regs{S: 0x00, PC: 9}, api.Regs{S: 0x03, PC: 0xffff, P: flags("C")}, 6, []access{reads(0x101, 0x31), reads(0x102, 0xff), reads(0x103, 0xff)}},
		{list(0x00), vector, api.Regs{S: 0xff, PC: 0x2000}, api.Regs{S: 0xfc, PC: 0x1234, P: flags("I")}, 7, append([]access{writes(0x1ff, 0x20), writes(0x1fe, 0x02), writes(0x1fd, flags("UB"))}, look...)},
		{list(0x00), vector, api.Regs{S: 0x01, PC: 0x20fe, P: flags("NVDZC")}, api.Regs{S: 0xfe, PC: 0x1234, P: flags("NVDIZC")}, 7, append([]access{writes(0x101, 0x21), writes(0x100, 0x00), writes(0x1ff, flags("NVUBDZC"))}, look...)},
		{list(0x00), vector, api.Regs{S: 0x00, PC: 0xfffd, P: flags("I")}, api.Regs{S: 0xfd, PC: 0x1234, P: flags("I")}, 7, append([]access{writes(0x100, 0xff), writes(0x1ff, 0xff), writes(0x1fe, flags("UBI"))}, look...)},
		{list(0x00), map[int]byte{0xfffe: 0, 0xffff: 3}, api.Regs{S: 0x80, PC: 0xfffe}, api.Regs{S: 0x7d, PC: 0x0300, P: flags("I")}, 7, []access{writes(0x180, 0), writes(0x17f, 0), writes(0x17e, flags("UB")), reads(0xfffe, 0), reads(0xffff, 3)}},
	} {
		x.check(t)
	}
}

// P2502, P2504: JMP, at the last place of a page; instructions round the end of memory.
func TestJumpsAndTheEnd(t *testing.T) {
	for _, x := range []edge{
		{list(0x4c, 0x34, 0x12), nil, api.Regs{PC: 0x2000}, api.Regs{PC: 0x1234}, 3, nil},
		{list(0x4c, 0xff, 0xff), nil, api.Regs{PC: 0xfffe}, api.Regs{PC: 0xffff}, 3, nil},
		{list(0x6c, 0xff, 0x30), map[int]byte{0x30ff: 0x78, 0x3000: 0x56, 0x3100: 0x99}, api.Regs{PC: 0x2000}, api.Regs{PC: 0x5678}, 5, []access{reads(0x30ff, 0x78), reads(0x3000, 0x56)}},
		{list(0x6c, 0xfe, 0x30), map[int]byte{0x30fe: 0x78, 0x30ff: 0x56}, api.Regs{PC: 0x2000}, api.Regs{PC: 0x5678}, 5, []access{reads(0x30fe, 0x78), reads(0x30ff, 0x56)}},
		{list(0x6c, 0xff, 0xff), map[int]byte{0xffff: 0x78, 0xff00: 0x56, 0: 0x99}, api.Regs{PC: 0x2000}, api.Regs{PC: 0x5678}, 5, []access{reads(0xffff, 0x78), reads(0xff00, 0x56)}},
		{list(0xea), nil, api.Regs{A: 1, X: 2, Y: 3, S: 4, PC: 0xffff, P: flags("NZ")}, api.Regs{A: 1, X: 2, Y: 3, S: 4, PC: 0, P: flags("NZ")}, 2, nil},
		{list(0xa9, 0x00), nil, api.Regs{A: 1, PC: 0xffff, P: flags("N")}, api.Regs{PC: 1, P: flags("Z")}, 2, nil},
		{list(0xad, 0x34, 0x12), map[int]byte{0x1234: 0x99}, api.Regs{PC: 0xffff}, api.Regs{A: 0x99, PC: 2, P: flags("N")}, 4, []access{reads(0x1234, 0x99)}},
		{list(0xad, 0x34, 0x12), map[int]byte{0x1234: 0x19}, api.Regs{PC: 0xfffe, P: flags("Z")}, api.Regs{A: 0x19, PC: 1}, 4, []access{reads(0x1234, 0x19)}},
	} {
		x.check(t)
	}
}

// P2503, P2504: zero page round, pages crossed and not, with the extra cycle and without.
func TestPlaces(t *testing.T) {
	at := func(place int, b byte) map[int]byte { return map[int]byte{place: b} }
	point := func(from int, low, high byte, place int, b byte) map[int]byte {
		return map[int]byte{from: low, (from + 1) % 256: high, place: b}
	}
	looks := func(also map[int]byte, places ...int) (l []access) {
		for _, place := range places {
			l = append(l, reads(place, also[place]))
		}
		return l
	}
	lda := func(b []byte, also map[int]byte, x, y byte, cycles int, places ...int) edge {
		ahead := api.Regs{X: x, Y: y, PC: 0x1000, P: flags("NZ")}
		behind := api.Regs{A: 0x42, X: x, Y: y, PC: 0x1000 + uint16(len(b))}
		return edge{b, also, ahead, behind, cycles, looks(also, places...)}
	}
	far := point(0xff, 0xf0, 0x20, 0x20ff, 0x42)
	farther := point(0xff, 0xf0, 0x20, 0x2100, 0x42)
	for _, x := range []edge{
		lda(list(0xa5, 0xff), at(0xff, 0x42), 1, 1, 3, 0xff),
		lda(list(0xb5, 0xff), at(0x00, 0x42), 1, 9, 4, 0x00),
		lda(list(0xb5, 0x80), at(0x7f, 0x42), 0xff, 9, 4, 0x7f),
		lda(list(0xad, 0xff, 0x20), at(0x20ff, 0x42), 1, 1, 4, 0x20ff),
		lda(list(0xbd, 0xff, 0x20), at(0x20ff, 0x42), 0, 1, 4, 0x20ff),
		lda(list(0xbd, 0xff, 0x20), at(0x2100, 0x42), 1, 0, 5, 0x2100),
		lda(list(0xbd, 0xff, 0xff), at(0x0000, 0x42), 1, 0, 5, 0x0000),
		lda(list(0xb9, 0x80, 0x20), at(0x20ff, 0x42), 1, 0x7f, 4, 0x20ff),
		lda(list(0xb9, 0x80, 0x20), at(0x2100, 0x42), 0, 0x80, 5, 0x2100),
		lda(list(0xa1, 0xff), point(0xff, 0xf0, 0x20, 0x20f0, 0x42), 0, 1, 6, 0xff, 0x00, 0x20f0),
		lda(list(0xa1, 0x01), point(0xff, 0xff, 0x20, 0x20ff, 0x42), 0xfe, 1, 6, 0xff, 0x00, 0x20ff),
		lda(list(0xb1, 0xff), far, 0, 0x0f, 5, 0xff, 0x00, 0x20ff),
		lda(list(0xb1, 0xff), farther, 0, 0x10, 6, 0xff, 0x00, 0x2100),
	} {
		x.check(t)
	}
	regs := func(a, x, y byte, pc uint16) api.Regs { return api.Regs{A: a, X: x, Y: y, PC: pc} }
	for _, x := range []edge{
		{list(0xb6, 0xff), at(0x01, 0x00), regs(1, 9, 2, 0x1000), api.Regs{A: 1, X: 0, Y: 2, PC: 0x1002, P: flags("Z")}, 4, []access{reads(1, 0)}},
		{list(0x96, 0xff), nil, regs(1, 9, 2, 0x1000), regs(1, 9, 2, 0x1002), 4, []access{writes(1, 9)}},
		{list(0x94, 0xff), nil, regs(1, 9, 2, 0x1000), regs(1, 9, 2, 0x1002), 4, []access{writes(8, 2)}},
		{list(0x9d, 0xff, 0x20), nil, regs(1, 9, 2, 0x1000), regs(1, 9, 2, 0x1003), 5, []access{writes(0x2108, 1)}},
		{list(0x9d, 0x00, 0x20), nil, regs(1, 9, 2, 0x1000), regs(1, 9, 2, 0x1003), 5, []access{writes(0x2009, 1)}},
		{list(0x99, 0xff, 0x20), nil, regs(1, 9, 2, 0x1000), regs(1, 9, 2, 0x1003), 5, []access{writes(0x2101, 1)}},
		{list(0x91, 0xff), point(0xff, 0xff, 0x20, 0, 0x20), regs(1, 9, 2, 0x1000), regs(1, 9, 2, 0x1002), 6, []access{reads(0xff, 0xff), reads(0, 0x20), writes(0x2101, 1)}},
		{list(0x81, 0xf6), point(0xff, 0xff, 0x20, 0, 0x20), regs(1, 9, 2, 0x1000), regs(1, 9, 2, 0x1002), 6, []access{reads(0xff, 0xff), reads(0, 0x20), writes(0x20ff, 1)}},
		{list(0xfe, 0xff, 0x20), at(0x2108, 0x7e), regs(1, 9, 2, 0x1000), regs(1, 9, 2, 0x1003), 7, []access{reads(0x2108, 0x7e), writes(0x2108, 0x7f)}},
		{list(0xfe, 0x00, 0x20), at(0x2009, 0x7e), regs(1, 9, 2, 0x1000), regs(1, 9, 2, 0x1003), 7, []access{reads(0x2009, 0x7e), writes(0x2009, 0x7f)}},
		{list(0x06, 0x10), at(0x10, 0x20), regs(1, 9, 2, 0x1000), regs(1, 9, 2, 0x1002), 5, []access{reads(0x10, 0x20), writes(0x10, 0x40)}},
		{list(0x0a), nil, regs(0x20, 9, 2, 0x1000), regs(0x40, 9, 2, 0x1001), 2, nil},
	} {
		x.check(t)
	}
}

// branchOf: the opcodes of the eight, with the flag, and whether they go where it is set.
var branchOf = map[byte]struct {
	flag string
	set  bool
}{
	0x10: {"N", false}, 0x30: {"N", true}, 0x50: {"V", false}, 0x70: {"V", true},
	0x90: {"C", false}, 0xb0: {"C", true}, 0xd0: {"Z", false}, 0xf0: {"Z", true},
}

// P2502, P2504: forward and back, into another page and not, taken and not taken.
func TestBranches(t *testing.T) {
	for op, x := range branchOf {
		for _, way := range []struct {
			pc    uint16
			by    byte
			to    uint16
			taken int
		}{
			{0x2000, 0x00, 0x2002, 3}, {0x2000, 0x7f, 0x2081, 3}, {0x2080, 0x7d, 0x20ff, 3}, {0x2080, 0x7e, 0x2100, 4}, {0x20f0, 0x7f, 0x2171, 4},
			{0x2000, 0xfe, 0x2000, 3}, {0x2000, 0xfd, 0x1fff, 4}, {0x2080, 0x80, 0x2002, 3}, {0x2000, 0x80, 0x1f82, 4},
			{0x20fd, 0xfe, 0x20fd, 3}, {0x20fe, 0xfe, 0x20fe, 4}, {0x20fe, 0x00, 0x2100, 3}, {0x20ff, 0xff, 0x2100, 3}, {0x20ff, 0xfd, 0x20fe, 4}, {0x20fd, 0x00, 0x20ff, 3}, {0x20fd, 0x01, 0x2100, 4},
			{0xfffe, 0x00, 0x0000, 3}, {0xfffe, 0xff, 0xffff, 4}, {0xffff, 0x7f, 0x0080, 3}, {0x0000, 0x80, 0xff82, 4}, {0xfff0, 0x10, 0x0002, 4},
		} {
			for _, set := range []bool{true, false} {
				p := flags("NVDIZC") &^ flags(x.flag)
				if set {
					p = flags(x.flag)
				}
				ahead := api.Regs{PC: way.pc, P: p}
				behind, cycles := ahead, 2
				behind.PC += 2
				if set == x.set {
					behind.PC, cycles = way.to, way.taken
				}
				edge{list(op, way.by), nil, ahead, behind, cycles, nil}.check(t)
			}
		}
	}
}

// P2504: with FlagD as without, the other flags as alu tells them.
func TestSums(t *testing.T) {
	for _, x := range []struct {
		op, a, m byte
		p        string
		sum      byte
		then     string
	}{
		{0x69, 0x50, 0x50, "", 0xa0, "NV"},
		{0x69, 0xff, 0x01, "", 0x00, "ZC"},
		{0x69, 0xff, 0xff, "C", 0xff, "NC"},
		{0x69, 0x15, 0x27, "DC", 0x43, "D"},
		{0x69, 0x15, 0x27, "C", 0x3d, ""},
		{0x69, 0x99, 0x01, "D", 0x00, "DNC"},
		{0x69, 0x79, 0x00, "DC", 0x80, "DNV"},
		{0x69, 0x0f, 0x0f, "D", 0x14, "D"},
		{0xe9, 0x50, 0xf0, "C", 0x60, ""},
		{0xe9, 0x00, 0x01, "C", 0xff, "N"},
		{0xe9, 0x05, 0x05, "C", 0x00, "ZC"},
		{0xe9, 0x05, 0x05, "", 0xff, "N"},
		{0xe9, 0x10, 0x01, "DC", 0x09, "DC"},
		{0xe9, 0x10, 0x01, "C", 0x0f, "C"},
		{0xe9, 0x00, 0x01, "DC", 0x99, "DN"},
		{0xc9, 0x10, 0x20, "DI", 0x10, "NDI"},
		{0xc9, 0x20, 0x20, "NV", 0x20, "VZC"},
		{0x29, 0xf0, 0x0f, "N", 0x00, "Z"},
		{0x09, 0xf0, 0x0f, "Z", 0xff, "N"},
		{0x49, 0xff, 0x0f, "ZC", 0xf0, "NC"},
	} {
		ahead := api.Regs{A: x.a, X: 1, Y: 2, PC: 0x400, P: flags(x.p)}
		behind := api.Regs{A: x.sum, X: 1, Y: 2, PC: 0x402, P: flags(x.then)}
		edge{list(x.op, x.m), nil, ahead, behind, 2, nil}.check(t)
	}
}

// P2504: flags by hand, of what has no operand.
func TestFlagsAlone(t *testing.T) {
	all := flags("NVDIZC")
	for op, letter := range map[byte]string{0x18: "C", 0x58: "I", 0xb8: "V", 0xd8: "D"} {
		edge{list(op), nil, api.Regs{PC: 5, P: all}, api.Regs{PC: 6, P: all &^ flags(letter)}, 2, nil}.check(t)
		edge{list(op), nil, api.Regs{PC: 5}, api.Regs{PC: 6}, 2, nil}.check(t)
	}
	for op, letter := range map[byte]string{0x38: "C", 0x78: "I", 0xf8: "D"} {
		edge{list(op), nil, api.Regs{PC: 5}, api.Regs{PC: 6, P: flags(letter)}, 2, nil}.check(t)
		edge{list(op), nil, api.Regs{PC: 5, P: all}, api.Regs{PC: 6, P: all}, 2, nil}.check(t)
	}
}

// P2504: from register to register, one more and one less, round.
func TestRegisters(t *testing.T) {
	from := api.Regs{A: 0x80, X: 0x00, Y: 0x7f, S: 0x33, PC: 5, P: flags("VC")}
	with := func(change func(r *api.Regs), p string) api.Regs {
		r := from
		r.PC++
		r.P = flags("VC" + p)
		change(&r)
		return r
	}
	for op, behind := range map[byte]api.Regs{
		0xaa: with(func(r *api.Regs) { r.X = 0x80 }, "N"),
		0xa8: with(func(r *api.Regs) { r.Y = 0x80 }, "N"),
		0x8a: with(func(r *api.Regs) { r.A = 0x00 }, "Z"),
		0x98: with(func(r *api.Regs) { r.A = 0x7f }, ""),
		0xba: with(func(r *api.Regs) { r.X = 0x33 }, ""),
		0x9a: with(func(r *api.Regs) { r.S = 0x00 }, ""),
		0xe8: with(func(r *api.Regs) { r.X = 0x01 }, ""),
		0xca: with(func(r *api.Regs) { r.X = 0xff }, "N"),
		0xc8: with(func(r *api.Regs) { r.Y = 0x80 }, "N"),
		0x88: with(func(r *api.Regs) { r.Y = 0x7e }, ""),
	} {
		edge{list(op), nil, from, behind, 2, nil}.check(t)
	}
	last := api.Regs{X: 0xff, Y: 0x01, PC: 5}
	edge{list(0xe8), nil, last, api.Regs{X: 0x00, Y: 0x01, PC: 6, P: flags("Z")}, 2, nil}.check(t)
	edge{list(0x88), nil, last, api.Regs{X: 0xff, Y: 0x00, PC: 6, P: flags("Z")}, 2, nil}.check(t)
}

// P2507: Cycles goes round in 64 bits.
func TestCyclesGoRound(t *testing.T) {
	f := newField(t)
	f.lay(0, 0xea, 0xea)
	c := over(t, f.memory)
	c.Restore(api.Regs{}, 1<<64-1, 0, false, api.OK)
	c.Step()
	is(t, "Cycles", c.Cycles(), uint64(1))
	c.Restore(api.Regs{}, 1<<64-7, 0, false, api.OK)
	c.Reset()
	is(t, "Cycles", c.Cycles(), uint64(0))
}
