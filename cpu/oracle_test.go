package cpu_test

import (
	"orrery/alu"
	"orrery/api"
	"orrery/cpu"
)

// second: the chapter read a second time, over bytes alone; it tells what it reads and writes.
type second struct {
	bytes  [65536]byte
	r      api.Regs
	cycles int
	nmi    bool
	lines  int
	log    []access
}

func (s *second) read(at int) int {
	b := s.bytes[at%65536]
	s.log = append(s.log, reads(at%65536, b))
	return int(b)
}

func (s *second) write(at, b int) {
	s.log = append(s.log, writes(at%65536, byte(b)))
	s.bytes[at%65536] = byte(b)
}

func (s *second) push(b int) {
	s.write(256+int(s.r.S), b)
	s.r.S--
}

func (s *second) pull() int {
	s.r.S++
	return s.read(256 + int(s.r.S))
}

func (s *second) has(flag string) bool { return s.r.P&flags(flag) != 0 }

func (s *second) put(flag string, on bool) {
	s.r.P &^= flags(flag)
	if on {
		s.r.P |= flags(flag)
	}
}

// of: flags of a value, which is handed on.
func (s *second) of(v int) byte {
	s.put("N", v%256 > 127)
	s.put("Z", v%256 == 0)
	return byte(v)
}

// told: since the last time.
func (s *second) told() []access {
	log := s.log
	s.log = nil
	return log
}

// step: false, if the opcode has no instruction; nothing but a read is done then.
func (s *second) step() (cpu.Step, bool) {
	did := cpu.Step{Before: s.r}
	switch {
	case s.nmi:
		s.nmi = false
		did.Kind, did.Cycles = 2, 7
		s.away(int(s.r.PC), 0, 0xfffa)
	case s.lines > 0 && !s.has("I"):
		did.Kind, did.Cycles = 1, 7
		s.away(int(s.r.PC), 0, 0xfffe)
	default:
		r, ok := rows[byte(s.read(int(s.r.PC)))]
		if !ok {
			return cpu.Step{}, false
		}
		did.Bytes = []byte{r.op}
		for i := 1; i < size[r.way]; i++ {
			did.Bytes = append(did.Bytes, byte(s.read(int(s.r.PC)+i)))
		}
		did.Cycles = r.cycles + s.instruction(r, did.Bytes)
	}
	did.After = s.r
	s.cycles += did.Cycles
	return did, true
}

// away: to where BRK and interrupts go.
func (s *second) away(back int, b byte, vector int) {
	s.push(back / 256 % 256)
	s.push(back % 256)
	s.push(int(s.r.P | b))
	s.put("I", true)
	s.r.PC = uint16(s.read(vector) + 256*s.read(vector+1))
}

// instruction: what it costs beyond its base.
func (s *second) instruction(r row, b []byte) int {
	at, crossed := s.where(r, b)
	s.r.PC += uint16(len(b))
	more := s.branch(r.name, at)
	if r.more && crossed {
		more++
	}
	m := func() int {
		switch r.way {
		case "imm":
			return int(b[1])
		case "acc":
			return int(s.r.A)
		}
		return s.read(at)
	}
	back := func(v byte) {
		if r.way == "acc" {
			s.r.A = v
		} else {
			s.write(at, int(v))
		}
	}
	if !s.moves(r.name, at, m) && !s.reckons(r.name, m, back) && !s.jumps(r.name, at) {
		s.turns(r.name)
	}
	return more
}

// where: the operand's place, and was a page crossed?
func (s *second) where(r row, b []byte) (int, bool) {
	one, two := 0, 0
	if len(b) > 1 {
		one = int(b[1])
	}
	if len(b) > 2 {
		two = one + 256*int(b[2])
	}
	x, y := int(s.r.X), int(s.r.Y)
	switch r.way {
	case "zp":
		return one, false
	case "zpx":
		return (one + x) % 256, false
	case "zpy":
		return (one + y) % 256, false
	case "abs":
		return two, false
	case "abx":
		return (two + x) % 65536, two%256+x > 255
	case "aby":
		return (two + y) % 65536, two%256+y > 255
	case "inx":
		low := s.read((one + x) % 256)
		return low + 256*s.read((one+x+1)%256), false
	case "iny":
		low := s.read(one)
		return (low + 256*s.read((one+1)%256) + y) % 65536, low+y > 255
	case "ind":
		low := s.read(two)
		return low + 256*s.read(two-two%256+(two+1)%256), false
	case "rel":
		if one > 127 {
			one -= 256
		}
		return (int(s.r.PC) + 2 + one + 65536) % 65536, false
	}
	return 0, false
}

// branch: what it costs beyond its base.
func (s *second) branch(name string, at int) int {
	tests := map[string]bool{
		"BPL": !s.has("N"), "BMI": s.has("N"), "BVC": !s.has("V"), "BVS": s.has("V"),
		"BCC": !s.has("C"), "BCS": s.has("C"), "BNE": !s.has("Z"), "BEQ": s.has("Z"),
	}
	if !tests[name] {
		return 0
	}
	more := 1
	if at/256 != int(s.r.PC)/256 {
		more = 2
	}
	s.r.PC = uint16(at)
	return more
}

func (s *second) moves(name string, at int, m func() int) bool {
	switch name {
	case "LDA":
		s.r.A = s.of(m())
	case "LDX":
		s.r.X = s.of(m())
	case "LDY":
		s.r.Y = s.of(m())
	case "STA":
		s.write(at, int(s.r.A))
	case "STX":
		s.write(at, int(s.r.X))
	case "STY":
		s.write(at, int(s.r.Y))
	case "TAX":
		s.r.X = s.of(int(s.r.A))
	case "TAY":
		s.r.Y = s.of(int(s.r.A))
	case "TXA":
		s.r.A = s.of(int(s.r.X))
	case "TYA":
		s.r.A = s.of(int(s.r.Y))
	case "TSX":
		s.r.X = s.of(int(s.r.S))
	case "TXS":
		s.r.S = s.r.X
	case "PHA":
		s.push(int(s.r.A))
	case "PHP":
		s.push(int(s.r.P | flags("BU")))
	case "PLA":
		s.r.A = s.of(s.pull())
	case "PLP":
		s.r.P = byte(s.pull())&flags("NVDIZC") | flags("U")
	default:
		return false
	}
	return true
}

// sum: of A and a byte, with the carry; decimal ones as alu has them.
func (s *second) sum(m int) {
	if s.has("D") {
		s.r.A, s.r.P = alu.Add(s.r.A, byte(m), s.r.P)
		return
	}
	a, c := int(s.r.A), int(s.r.P&1)
	s.put("C", a+m+c > 255)
	n := int(int8(a)) + int(int8(m)) + c
	s.put("V", n < -128 || n > 127)
	s.r.A = s.of((a + m + c) % 256)
}

func (s *second) difference(m int) {
	if s.has("D") {
		s.r.A, s.r.P = alu.Sub(s.r.A, byte(m), s.r.P)
		return
	}
	a, c := int(s.r.A), int(s.r.P&1)
	s.put("C", a-m-1+c >= 0)
	n := int(int8(a)) - int(int8(m)) - 1 + c
	s.put("V", n < -128 || n > 127)
	s.r.A = s.of((a - m - 1 + c + 256) % 256)
}

func (s *second) compare(register byte, m int) {
	s.put("C", int(register) >= m)
	s.of((int(register) - m + 256) % 256)
}

func (s *second) reckons(name string, m func() int, back func(byte)) bool {
	c := int(s.r.P & 1)
	switch name {
	case "ADC":
		s.sum(m())
	case "SBC":
		s.difference(m())
	case "AND":
		s.r.A = s.of(int(s.r.A) & m())
	case "ORA":
		s.r.A = s.of(int(s.r.A) | m())
	case "EOR":
		s.r.A = s.of(int(s.r.A) ^ m())
	case "CMP":
		s.compare(s.r.A, m())
	case "CPX":
		s.compare(s.r.X, m())
	case "CPY":
		s.compare(s.r.Y, m())
	case "BIT":
		v := m()
		s.put("N", v > 127)
		s.put("V", v/64%2 == 1)
		s.put("Z", int(s.r.A)&v == 0)
	case "ASL", "ROL":
		v := m()
		s.put("C", v > 127)
		if name == "ASL" {
			c = 0
		}
		back(s.of((2*v + c) % 256))
	case "LSR", "ROR":
		v := m()
		s.put("C", v%2 == 1)
		if name == "LSR" {
			c = 0
		}
		back(s.of(v/2 + 128*c))
	case "INC":
		back(s.of((m() + 1) % 256))
	case "DEC":
		back(s.of((m() + 255) % 256))
	case "INX":
		s.r.X = s.of((int(s.r.X) + 1) % 256)
	case "INY":
		s.r.Y = s.of((int(s.r.Y) + 1) % 256)
	case "DEX":
		s.r.X = s.of((int(s.r.X) + 255) % 256)
	case "DEY":
		s.r.Y = s.of((int(s.r.Y) + 255) % 256)
	default:
		return false
	}
	return true
}

func (s *second) jumps(name string, at int) bool {
	behind := int(s.r.PC)
	switch name {
	case "JMP":
		s.r.PC = uint16(at)
	case "JSR":
		s.push((behind + 65535) % 65536 / 256)
		s.push((behind + 65535) % 256)
		s.r.PC = uint16(at)
	case "RTS":
		low := s.pull()
		s.r.PC = uint16((low + 256*s.pull() + 1) % 65536)
	case "RTI":
		s.r.P = byte(s.pull())&flags("NVDIZC") | flags("U")
		low := s.pull()
		s.r.PC = uint16(low + 256*s.pull())
	case "BRK":
		s.away((behind+1)%65536, flags("B"), 0xfffe)
	default:
		return false
	}
	return true
}

func (s *second) turns(name string) {
	switch name {
	case "CLC", "CLD", "CLI", "CLV":
		s.put(name[2:], false)
	case "SEC", "SED", "SEI":
		s.put(name[2:], true)
	}
}
