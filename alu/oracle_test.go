package alu_test

import (
	"strconv"
	"testing"

	"orrery/alu"
)

// verdict: what is told of a flag; of most nothing is, so that they stay.
type verdict int

const (
	stays verdict = iota
	off
	on
)

func is(b bool) verdict {
	if b {
		return on
	}
	return off
}

// answer: what comes of a call, by a second reading of the chapter in whole numbers.
type answer struct {
	value      int
	n, v, z, c verdict
}

// of: the answer with the flags of its value.
func of(value int) answer {
	return answer{value: value, n: is(value > 127), z: is(value == 0)}
}

// carried: the same with FlagC.
func (a answer) carried(c bool) answer {
	a.c = is(c)
	return a
}

// flagsOver: P, of which these flags are told.
func (a answer) flagsOver(p byte) byte {
	for letter, told := range map[string]verdict{"N": a.n, "V": a.v, "Z": a.z, "C": a.c} {
		switch told {
		case on:
			p |= flags(letter)
		case off:
			p &^= flags(letter)
		}
	}
	return p
}

// modulo: from 0 to m - 1.
func modulo(n, m int) int { return (n%m + m) % m }

// signed: a byte, or a sum's lowest bits, as a number from -128 to 127.
func signed(n int) int { return modulo(n+128, 256) - 128 }

// bit: is it set?
func bit(n, place int) bool { return n>>place%2 == 1 }

func addAgain(a, b, carry int, decimal bool) answer {
	s := a + b + carry
	x := of(s % 256).carried(s > 255)
	signedSum := signed(a) + signed(b) + carry
	x.v = is(signedSum < -128 || signedSum > 127)
	if !decimal {
		return x
	}
	l := a%16 + b%16 + carry
	if l > 9 {
		l = (l+6)%16 + 16
	}
	h := a - a%16 + b - b%16 + l
	x.n = is(bit(h, 7))
	x.v = is(bit(a, 7) == bit(b, 7) && bit(a, 7) != bit(h, 7))
	if h > 159 {
		h += 96
	}
	x.c = is(h > 255)
	x.value = h % 256
	return x
}

func subAgain(a, b, carry int, decimal bool) answer {
	d := a - b - 1 + carry
	x := of(modulo(d, 256)).carried(d >= 0)
	signedDifference := signed(a) - signed(b) - 1 + carry
	x.v = is(signedDifference < -128 || signedDifference > 127)
	if !decimal {
		return x
	}
	l := a%16 - b%16 - 1 + carry
	if l < 0 {
		l = modulo(l-6, 16) - 16
	}
	h := a - a%16 - (b - b%16) + l
	if h < 0 {
		h -= 96
	}
	x.value = modulo(h, 256)
	return x
}

// joined: bit by bit, where with tells what comes of how many of the two bits are set.
func joined(a, b int, with func(set int) bool) answer {
	value := 0
	for i := range 8 {
		if with(a>>i%2 + b>>i%2) {
			value += 1 << i
		}
	}
	return of(value)
}

func bitAgain(a, b int) answer {
	x := joined(a, b, func(set int) bool { return set == 2 })
	return answer{n: is(bit(b, 7)), v: is(bit(b, 6)), z: x.z}
}

func compareAgain(a, b int) answer {
	x := of(modulo(a-b, 256)).carried(a >= b)
	x.value = 0
	return x
}

func again(name string, a, b, carry int, decimal bool) answer {
	switch name {
	case "Flags":
		x := of(a)
		x.value = 0
		return x
	case "Add":
		return addAgain(a, b, carry, decimal)
	case "Sub":
		return subAgain(a, b, carry, decimal)
	case "And":
		return joined(a, b, func(set int) bool { return set == 2 })
	case "Or":
		return joined(a, b, func(set int) bool { return set > 0 })
	case "Eor":
		return joined(a, b, func(set int) bool { return set == 1 })
	case "Compare":
		return compareAgain(a, b)
	case "Bit":
		return bitAgain(a, b)
	case "Asl":
		return of(2 * a % 256).carried(a > 127)
	case "Lsr":
		return of(a / 2).carried(a%2 == 1)
	case "Rol":
		return of((2*a + carry) % 256).carried(a > 127)
	case "Ror":
		return of((256*carry + a) / 2).carried(a%2 == 1)
	case "Inc":
		return of((a + 1) % 256)
	case "Dec":
		return of((a + 255) % 256)
	}
	panic(name)
}

// wantAgain: the same answer as the second reading's, over each of these P.
func wantAgain(t *testing.T, c call, a, b int, list []byte) {
	t.Helper()
	for _, p := range list {
		x := again(c.name, a, b, int(p&1), bit(int(p), 3))
		wantAnswer(t, c, byte(a), byte(b), p, byte(x.value), x.flagsOver(p))
	}
}

// telling: with and without FlagC and FlagD, once with no other flag and once with all of them.
func telling() []byte {
	var list []byte
	for _, p := range []string{"", "C", "D", "CD"} {
		list = append(list, flags(p), flags(p+"NVUBIZ"))
	}
	return list
}

// allP: each of the 256.
func allP() []byte {
	list := make([]byte, 256)
	for p := range list {
		list[p] = byte(p)
	}
	return list
}

func TestAllPairs(t *testing.T) {
	list := telling()
	for _, c := range calls {
		t.Run(c.name, func(t *testing.T) {
			t.Parallel()
			for a := range 256 {
				for b := range 256 {
					wantAgain(t, c, a, b, list)
				}
			}
		})
	}
}

func TestAllFlagsAtTheEdges(t *testing.T) {
	edges := []int{0x00, 0x01, 0x09, 0x0f, 0x10, 0x3f, 0x40, 0x7f, 0x80, 0x81, 0x99, 0xa0, 0xc0, 0xff}
	for _, c := range calls {
		for _, a := range edges {
			for _, b := range edges {
				wantAgain(t, c, a, b, allP())
			}
		}
	}
}

func TestAllFlagsOfSingleValues(t *testing.T) {
	for _, c := range calls {
		for a := range 256 {
			wantAgain(t, c, a, 0x35, allP())
		}
	}
}

// decimalAgain: by the digits as texts.
func decimalAgain(a, b byte, carry int) (sum, difference byte, ok bool) {
	x, wrongX := strconv.Atoi(strconv.FormatInt(int64(a), 16))
	y, wrongY := strconv.Atoi(strconv.FormatInt(int64(b), 16))
	if wrongX != nil || wrongY != nil {
		return 0, 0, false
	}
	return digitsOf(x + y + carry), digitsOf(x - y - 1 + carry), true
}

func digitsOf(n int) byte {
	b, e := strconv.ParseUint(strconv.Itoa(modulo(n, 100)), 16, 8)
	if e != nil {
		panic(e)
	}
	return byte(b)
}

func TestDecimalOfAllPairs(t *testing.T) {
	for a := range 256 {
		for b := range 256 {
			for _, p := range telling() {
				x, y, ok := alu.Decimal(byte(a), byte(b), p)
				wantX, wantY, wantOK := decimalAgain(byte(a), byte(b), int(p&1))
				if x != wantX || y != wantY || ok != wantOK {
					t.Errorf("Decimal(%02X, %02X, %s): %02X, %02X, %v, not %02X, %02X, %v", a, b, told(p), x, y, ok, wantX, wantY, wantOK)
				}
			}
		}
	}
}
