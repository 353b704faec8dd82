package asm

import (
	"slices"

	"orrery/api"
	"orrery/lexer"
	"orrery/opcode"
)

// The directives that are known.
const (
	dotOrg   = ".ORG"
	dotByte  = ".BYTE"
	dotWord  = ".WORD"
	dotRes   = ".RES"
	dotAlign = ".ALIGN"
	dotEnd   = ".END"
)

// Split: P1901.
func Split(line string) (Line, int, api.Errno) {
	tokens, at, e := lexer.Lex(line)
	if e != api.OK {
		return Line{}, at, e
	}
	label, left := takeLabel(tokens)
	if label != "" && isBarred(label) {
		return Line{}, tokens[0].At, api.ErrLine
	}
	if len(left) == 0 {
		return Line{Label: label}, 0, api.OK
	}
	l, e := splitLeft(label, left)
	if e != api.OK {
		return Line{}, left[0].At, e
	}
	return l, 0, api.OK
}

// takeLabel: the label, empty if there is none, and the tokens behind it.
func takeLabel(l []lexer.Token) (string, []lexer.Token) {
	switch {
	case !isName(l):
		return "", l
	case isMark(l, 1, ":"):
		return l[0].Text, l[2:]
	case isMark(l, 1, "=") || isMnemonic(l[0].Text) || isDirective(l[0].Text):
		return "", l
	}
	return l[0].Text, l[1:]
}

// splitLeft: a line by what is left behind its label, one token at least. All its errors are those of the first one.
func splitLeft(label string, l []lexer.Token) (Line, api.Errno) {
	word := lexer.Fold(l[0].Text)
	switch {
	case isName(l) && isMark(l, 1, "="):
		if label != "" || isBarred(l[0].Text) {
			return Line{}, api.ErrLine
		}
		return Line{Kind: Define, Word: l[0].Text, Rest: l[2:]}, api.OK
	case isMark(l, 0, "*") && isMark(l, 1, "="):
		return Line{Label: label, Kind: Origin, Rest: l[2:]}, api.OK
	case !isName(l):
		return Line{}, api.ErrLine
	case isKnownDirective(word):
		return Line{Label: label, Kind: Directive, Word: word, Rest: l[1:]}, api.OK
	case isMnemonic(word):
		return Line{Label: label, Kind: Instruction, Word: word, Rest: l[1:]}, api.OK
	}
	return Line{}, api.ErrOp
}

func isMnemonic(name string) bool { return opcode.Known(lexer.Fold(name)) }

func isDirective(name string) bool { return name[0] == '.' }

func isKnownDirective(folded string) bool {
	switch folded {
	case dotOrg, dotByte, dotWord, dotRes, dotAlign, dotEnd:
		return true
	}
	return false
}

// isBarred: an operand could not tell such a name from a register; and a point begins directives alone.
func isBarred(name string) bool {
	switch lexer.Fold(name) {
	case "A", "X", "Y":
		return true
	}
	return isDirective(name)
}

// isName: is the first token one?
func isName(l []lexer.Token) bool { return len(l) > 0 && l[0].Kind == lexer.Name }

// isMark: is that token there, and this Mark?
func isMark(l []lexer.Token, i int, told string) bool {
	return i < len(l) && l[i].Kind == lexer.Mark && l[i].Text == told
}

// Parts: P1905.
func Parts(l []lexer.Token) [][]lexer.Token {
	if len(l) == 0 {
		return nil
	}
	var parts [][]lexer.Token
	open, from := 0, 0
	for i := range l {
		switch {
		case isMark(l, i, "("):
			open++
		case isMark(l, i, ")"):
			open--
		case isMark(l, i, ",") && open == 0:
			parts = append(parts, slices.Clone(l[from:i]))
			from = i + 1
		}
	}
	return append(parts, slices.Clone(l[from:]))
}
