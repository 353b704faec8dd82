package alu

import "orrery/api"

const tableWords = 256 // one for each byte

// Where a word of the table tells what.
const (
	upAt    = 8
	downAt  = 16
	digitAt = 24
)

// table: of each value what the calls tell.
func table() [tableWords]uint32 {
	var words [tableWords]uint32
	for v := range words {
		b := byte(v)
		up, _ := Asl(b, 0)
		down, _ := Lsr(b, 0)
		words[v] = uint32(Flags(b, 0)) | uint32(up)<<upAt | uint32(down)<<downAt | uint32(digit(low(b)))<<digitAt
	}
	return words
}

// Words: F24.1.
func Words() []uint32 {
	words := table()
	return words[:]
}

// Rule: F24.1. It asks no other call, so that Words can be held against it.
func Rule() []uint32 {
	words := make([]uint32, tableWords)
	for v := range words {
		words[v] = ruled(uint32(v))
	}
	return words
}

// ruled: the word of a value from 0 to 255.
func ruled(v uint32) uint32 {
	flags := v / 128 * uint32(api.FlagN)
	if v == 0 {
		flags = uint32(api.FlagZ)
	}
	last := v % half
	if last > 9 {
		last += mend
	}
	return flags | v*2%tableWords<<upAt | v/2<<downAt | last<<digitAt
}
