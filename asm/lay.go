package asm

import (
	"orrery/api"
	"orrery/expr"
	"orrery/lexer"
)

// assembly: what the first walk knows so far.
type assembly struct {
	names map[string]int
	trees map[string]*expr.Tree // by the tokens, as lexer.Show tells them: to make a tree costs far more than to find one
	place int
	size  int // of the lines so far, together
}

func newAssembly() *assembly {
	return &assembly{names: map[string]int{}, trees: map[string]*expr.Tree{}}
}

// lay: what the first walk does with a line.
func (a *assembly) lay(line Line) (plan, api.Errno) {
	here := a.place
	if line.Label != "" {
		if e := a.give(line.Label, here); e != api.OK {
			return plan{}, e
		}
	}
	pieces, e := a.piecesOf(line)
	if e != api.OK {
		return plan{}, e
	}
	p := plan{here, pieces}
	return p, a.goOn(p.size())
}

func (a *assembly) piecesOf(line Line) ([]piece, api.Errno) {
	switch line.Kind {
	case Define:
		return nil, a.define(line.Word, line.Rest)
	case Origin:
		return nil, a.moveTo(line.Rest)
	case Directive:
		return a.directive(line.Word, line.Rest)
	case Instruction:
		return a.instruction(line.Word, line.Rest)
	}
	return nil, api.OK
}

func (a *assembly) goOn(size int) api.Errno {
	a.place += size
	a.size += size
	if a.place > api.MaxMemory || a.size > api.MaxMemory {
		return api.ErrOver
	}
	return api.OK
}

func (a *assembly) give(name string, value int) api.Errno {
	if _, there := a.names[name]; there {
		return api.ErrTwice
	}
	if len(a.names) >= api.MaxLabels {
		return api.ErrBig
	}
	a.names[name] = value
	return api.OK
}

func (a *assembly) define(name string, rest []lexer.Token) api.Errno {
	value, e := a.valueNow(rest)
	if e != api.OK {
		return e
	}
	return a.give(name, value)
}

func (a *assembly) moveTo(rest []lexer.Token) api.Errno {
	place, e := a.valueWithin(rest, 0, api.MaxMemory)
	if e == api.OK {
		a.place = place
	}
	return e
}

// treeOf: E of some tokens.
func (a *assembly) treeOf(l []lexer.Token) (*expr.Tree, api.Errno) {
	text, unshown := lexer.Show(l) // some are too long with their blanks
	if tree, there := a.trees[text]; there {
		return tree, api.OK
	}
	tree, _, e := expr.Parse(l)
	if e == api.OK && unshown == api.OK {
		a.trees[text] = tree
	}
	return tree, e
}

func (a *assembly) valueNow(l []lexer.Token) (int, api.Errno) {
	tree, e := a.treeOf(l)
	if e != api.OK {
		return 0, e
	}
	return tree.Eval(a.names, a.place)
}

func (a *assembly) valueWithin(l []lexer.Token, least, most int) (int, api.Errno) {
	value, e := a.valueNow(l)
	if e == api.OK && (value < least || value > most) {
		return 0, api.ErrRange
	}
	return value, e
}
