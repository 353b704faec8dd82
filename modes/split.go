package modes

import (
	"slices"

	"orrery/api"
	"orrery/lexer"
)

// Form: what an operand's tokens are.
type Form struct {
	Kind int
	Expr []lexer.Token
}

// part: a form, and where among the tokens its expression stands.
type part struct{ kind, from, to int }

// Split: P1702.
func Split(l []lexer.Token) (Form, int, api.Errno) {
	p := partOf(l)
	if p.kind == None || p.kind == OfA {
		return Form{Kind: p.kind}, 0, api.OK
	}
	if p.from == p.to {
		return Form{}, p.from, api.ErrMode
	}
	return Form{Kind: p.kind, Expr: slices.Clone(l[p.from:p.to])}, 0, api.OK
}

func partOf(l []lexer.Token) part {
	switch {
	case len(l) == 0:
		return part{kind: None}
	case len(l) == 1 && isName(l[0], "A"):
		return part{kind: OfA}
	case isMark(l[0], "#"):
		return part{Sharp, 1, len(l)}
	case isMark(l[0], "("):
		if p, ok := within(l); ok {
			return p
		}
		fallthrough // parentheses around no more than a piece belong to an expression
	default:
		return byTail(l)
	}
}

// within: the form of tokens that begin with `(`, if its `)` ends what it begins.
func within(l []lexer.Token) (part, bool) {
	end, ok := closing(l)
	switch {
	case !ok:
		return part{}, false
	case end == len(l)-1:
		if endsWith(l[:end], "X") { // no other parenthesis can be open there, since the next one closes the first
			return part{ParenX, 1, end - 2}, true
		}
		return part{Paren, 1, end}, true
	case end == len(l)-3 && endsWith(l, "Y"):
		return part{ParenY, 1, end}, true
	}
	return part{}, false
}

// closing: where the `)` stands that belongs to the first token.
func closing(l []lexer.Token) (int, bool) {
	open := 0
	for i, t := range l {
		if isMark(t, "(") {
			open++
		}
		if isMark(t, ")") {
			open--
		}
		if open == 0 {
			return i, true
		}
	}
	return 0, false
}

func byTail(l []lexer.Token) part {
	switch {
	case endsWith(l, "X"):
		return part{WithX, 0, len(l) - 2}
	case endsWith(l, "Y"):
		return part{WithY, 0, len(l) - 2}
	}
	return part{Plain, 0, len(l)}
}

// endsWith: are the last two `,` and that register?
func endsWith(l []lexer.Token, register string) bool {
	n := len(l)
	return n >= 2 && isMark(l[n-2], ",") && isName(l[n-1], register)
}

func isMark(t lexer.Token, told string) bool { return t.Kind == lexer.Mark && t.Text == told }

func isName(t lexer.Token, folded string) bool {
	return t.Kind == lexer.Name && lexer.Fold(t.Text) == folded
}
