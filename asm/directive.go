package asm

import (
	"orrery/api"
	"orrery/lexer"
)

func (a *assembly) directive(word string, rest []lexer.Token) (list []piece, e api.Errno) {
	parts := Parts(rest)
known:
	switch word {
	case dotOrg:
		e = a.moveTo(rest)
	case dotRes:
		if !areWhole(parts) || len(parts) > 2 {
			e = api.ErrLine
			break known
		}
		list, e = a.reserve(parts)
	case dotAlign:
		list, e = a.align(rest)
	case dotByte, dotWord:
		if !areWhole(parts) {
			e = api.ErrLine
			break known
		}
		for _, part := range parts {
			one, fault := a.item(word, part)
			if fault != api.OK {
				e = fault
				break known
			}
			list = append(list, one)
		}
	case dotEnd:
		if len(rest) > 0 {
			e = api.ErrLine
		}
	}
	return list, e
}

// areWhole: is there a part, and has each of them tokens?
func areWhole(parts [][]lexer.Token) bool {
	for _, part := range parts {
		if len(part) == 0 {
			return false
		}
	}
	return len(parts) > 0
}

func (a *assembly) reserve(parts [][]lexer.Token) ([]piece, api.Errno) {
	size, e := a.valueWithin(parts[0], 0, api.MaxMemory)
	if e != api.OK {
		return nil, e
	}
	fill := 0
	if len(parts) > 1 {
		fill, e = a.valueWithin(parts[1], leastByte, mostByte)
	}
	return []piece{filled(size, byte(fill))}, e
}

func (a *assembly) align(rest []lexer.Token) ([]piece, api.Errno) {
	n, e := a.valueWithin(rest, 1, api.MaxMemory)
	if e != api.OK {
		return nil, e
	}
	over := a.place % n
	return []piece{filled((n-over)%n, 0)}, api.OK
}

// item: what a part of .BYTE or .WORD is.
func (a *assembly) item(word string, part []lexer.Token) (piece, api.Errno) {
	if word == dotByte && len(part) == 1 && part[0].Kind == lexer.Text {
		return told(part[0].Text), api.OK
	}
	tree, e := a.treeOf(part)
	if e != api.OK {
		return piece{}, e
	}
	if word == dotByte {
		return valued(tree, 1, leastByte, mostByte), api.OK
	}
	return valued(tree, 2, leastWord, mostWord), api.OK
}
