package expr

import (
	"math"
	"strconv"

	"orrery/api"
)

// node: a piece of a tree. What it is worth need not be a value yet; with an error of its own it gives up by panic, which is caught at Eval.
type node interface {
	worth(names map[string]int, here int) int64
	text() string
}

// number: one that is told.
type number int64

// name: a number that the names tell.
type name string

// place: where the expression stands.
type place struct{}

// ahead: an operation with one side.
type ahead struct {
	mark string
	of   node
}

// between: an operation with two sides.
type between struct {
	mark        string
	left, right node
}

// valueOf: what a node is worth; gives up, if that is no value.
func valueOf(n node, names map[string]int, here int) int64 {
	worth := n.worth(names, here)
	if worth < math.MinInt32 || worth > math.MaxUint32 {
		panic(api.ErrRange)
	}
	return worth
}

func (n number) worth(map[string]int, int) int64 { return int64(n) }

func (n name) worth(names map[string]int, _ int) int64 {
	value, there := names[string(n)]
	if !there {
		panic(api.ErrUndefined)
	}
	return int64(value)
}

func (place) worth(_ map[string]int, here int) int64 { return int64(here) }

func (a ahead) worth(names map[string]int, here int) int64 {
	of := valueOf(a.of, names, here)
	switch a.mark {
	case "-":
		return -of
	case "~":
		return ^of
	case "!":
		return not(of)
	case "<":
		return of & 0xff
	case ">":
		return of >> 8 & 0xff
	}
	return of
}

func not(of int64) int64 {
	if of == 0 {
		return 1
	}
	return 0
}

// The left side is worked out ahead of the right one, since the first error is told. But for the product, no two values come to more than 64 bits hold.
func (b between) worth(names map[string]int, here int) int64 {
	left := valueOf(b.left, names, here)
	right := valueOf(b.right, names, here)
	switch b.mark {
	case "|":
		return left | right
	case "^":
		return left ^ right
	case "&":
		return left & right
	case "<<":
		return left << shiftBy(right)
	case ">>":
		return left >> shiftBy(right)
	case "+":
		return left + right
	case "-":
		return left - right
	case "*":
		return product(left, right)
	}
	return quotient(left, right)
}

func shiftBy(bits int64) int64 {
	if bits < 0 || bits > 31 {
		panic(api.ErrRange)
	}
	return bits
}

// product: gives up ahead of what would not fit into 64 bits, which takes two sides above 0.
func product(left, right int64) int64 {
	if left > 0 && right > math.MaxUint32/left {
		panic(api.ErrRange)
	}
	return left * right
}

func quotient(left, right int64) int64 {
	if right == 0 {
		panic(api.ErrZero)
	}
	return left / right
}

func (n number) text() string { return strconv.FormatInt(int64(n), 10) }

func (n name) text() string { return string(n) }

func (place) text() string { return "*" }

func (a ahead) text() string {
	told := a.mark + a.of.text()
	if a.mark == "<" || a.mark == ">" {
		return "(" + told + ")"
	}
	return told
}

func (b between) text() string {
	return "(" + b.left.text() + b.mark + b.right.text() + ")"
}
