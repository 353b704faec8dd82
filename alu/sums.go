package alu

import (
	"orrery/api"
	"orrery/bits"
)

const (
	lowHalf  = 0x0f
	highHalf = 0xf0
	half     = 16 // what the bits of a half can tell
	mostByte = 0xff
	mostHigh = 0x9f // above it the higher digit has a carry
	mend     = 6    // what a half can tell beyond its ten digits
)

// Add: F24.2. Of the flags with FlagD, FlagZ alone is that of the binary sum.
func Add(a, b, p byte) (byte, byte) {
	sum, flags := binary(a, b, p)
	if p&api.FlagD == 0 {
		return sum, flags
	}
	h := high(a) + high(b) + digit(low(a)+low(b)+int(carry(p)))
	flags = with(flags, api.FlagN, byte(h)&bit7 != 0)
	flags = with(flags, api.FlagV, overflows(a, b, byte(h)))
	if h > mostHigh {
		h += mend * half
	}
	return byte(h), with(flags, api.FlagC, h > mostByte)
}

// binary: the sum and P, whatever FlagD says.
func binary(a, b, p byte) (byte, byte) {
	s := int(a) + int(b) + int(carry(p))
	p = with(p, api.FlagC, s > mostByte)
	p = with(p, api.FlagV, overflows(a, b, byte(s)))
	return flagged(byte(s), p)
}

// overflows: have a and b the same bit 7, and the sum another?
func overflows(a, b, sum byte) bool { return !unlike(a, b) && unlike(a, sum) }

// unlike: in bit 7. Of two bits the parity tells it.
func unlike(a, b byte) bool { return bits.Parity((a^b)&bit7) == 1 }

func low(v byte) int { return int(bits.Gather(uint32(v), lowHalf)) }

// high: with its low half 0.
func high(v byte) int { return int(bits.Gather(uint32(v), highHalf)) * half }

// digit: a sum of low halves as a decimal digit with its carry. Beyond 25 the NMOS chip loses a carry, so this is no l + 6.
func digit(l int) int {
	if l <= 9 {
		return l
	}
	return (l+mend)%half + half
}

// Sub: F24.3. It is the sum with b's bits turned, since that is 256 more than the difference; with FlagD the flags are still those.
func Sub(a, b, p byte) (byte, byte) {
	difference, flags := binary(a, ^b, p)
	if p&api.FlagD == 0 {
		return difference, flags
	}
	h := high(a) - high(b) + borrowed(low(a)-low(b)-1+int(carry(p)))
	if h < 0 {
		h -= mend * half
	}
	return byte(h), flags
}

// borrowed: a difference of low halves, from -16 up, as a decimal digit less its borrow. Two halves are put to it ahead of the modulo, since Go's leaves a number below 0 below 0.
func borrowed(l int) int {
	if l >= 0 {
		return l
	}
	return (l-mend+2*half)%half - half
}

// Decimal: F24.5.
func Decimal(a, b, p byte) (sum, difference byte, ok bool) {
	x, e := bits.Unpacked(a)
	if e != api.OK {
		return 0, 0, false
	}
	y, e := bits.Unpacked(b)
	if e != api.OK {
		return 0, 0, false
	}
	c := int(carry(p))
	return digitsOf(x + y + c), digitsOf(x - y - 1 + c), true
}

// digitsOf: two digits of a number from -100 up, modulo 100, which Packed always takes.
func digitsOf(n int) byte {
	b, _ := bits.Packed((n + 100) % 100)
	return b
}
