package asm

import (
	"orrery/api"
	"orrery/expr"
	"orrery/lexer"
	"orrery/modes"
	"orrery/opcode"
)

func (a *assembly) instruction(mnemonic string, rest []lexer.Token) ([]piece, api.Errno) {
	form, _, e := modes.Split(rest)
	if e != api.OK {
		return nil, e
	}
	may := modesOf(mnemonic, form.Kind)
	if len(may) == 0 {
		return nil, api.ErrMode
	}
	var operand *expr.Tree
	if len(form.Expr) > 0 {
		operand, e = a.treeOf(form.Expr)
	}
	if e != api.OK {
		return nil, e
	}
	return []piece{coded(mnemonic, a.choose(may, operand), operand)}, api.OK
}

// modesOf: the modes of a mnemonic that such a form may be, rising.
func modesOf(mnemonic string, kind int) []int {
	var list []int
	for _, mode := range modes.May(kind) {
		if _, there := opcode.Code(mnemonic, mode); there {
			list = append(list, mode)
		}
	}
	return list
}

// choose: where two modes may be, the narrow one stands first. What the operand is worth farther down is not waited for, since the places of the lines behind hang on the mode.
func (a *assembly) choose(may []int, operand *expr.Tree) int {
	if len(may) == 1 {
		return may[0]
	}
	narrow, wide := may[0], may[1]
	if value, e := operand.Eval(a.names, a.place); e == api.OK && 0 <= value && value <= mostByte {
		return narrow
	}
	return wide
}

// coded: an opcode, and its operand, if it has one, behind it.
func coded(mnemonic string, mode int, operand *expr.Tree) piece {
	code, _ := opcode.Code(mnemonic, mode)
	return piece{modes.Length(mode), func(names map[string]int, here int) ([]byte, api.Errno) {
		value, e := 0, api.OK
		if operand != nil {
			value, e = operand.Eval(names, here)
		}
		if e != api.OK {
			return nil, e
		}
		behind, e := modes.Bytes(mode, value, here)
		return append([]byte{code}, behind...), e
	}}
}
