package asm

import (
	"slices"

	"orrery/api"
	"orrery/expr"
)

// The ranges of values. A byte and a word may be told with a sign or without.
const (
	leastByte = -128
	mostByte  = 255
	leastWord = -32768
	mostWord  = 65535
)

// plan: what the first walk leaves of a line to the second one.
type plan struct {
	here   int
	pieces []piece
}

// piece: some bytes of a line. How many there are is known at once; which ones, when all names have values.
type piece struct {
	size  int
	bytes func(names map[string]int, here int) ([]byte, api.Errno)
}

func (p plan) size() int {
	sum := 0
	for _, one := range p.pieces {
		sum += one.size
	}
	return sum
}

func (p plan) bytes(names map[string]int) ([]byte, api.Errno) {
	var all []byte
	for _, one := range p.pieces {
		list, e := one.bytes(names, p.here)
		if e != api.OK {
			return nil, e
		}
		all = append(all, list...)
	}
	return all, api.OK
}

func filled(size int, fill byte) piece {
	return piece{size, func(map[string]int, int) ([]byte, api.Errno) {
		return slices.Repeat([]byte{fill}, size), api.OK
	}}
}

func told(text string) piece {
	return piece{len(text), func(map[string]int, int) ([]byte, api.Errno) {
		return []byte(text), api.OK
	}}
}

// valued: what an expression is worth, the lowest byte first.
func valued(tree *expr.Tree, size, least, most int) piece {
	return piece{size, func(names map[string]int, here int) ([]byte, api.Errno) {
		value, e := tree.Eval(names, here)
		if e != api.OK {
			return nil, e
		}
		if value < least || value > most {
			return nil, api.ErrRange
		}
		return []byte{byte(value), byte(value >> 8)}[:size], api.OK
	}}
}
