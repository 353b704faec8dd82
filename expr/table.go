package expr

import (
	"orrery/grammar"
	"orrery/lexer"
	"orrery/lr"
)

// rules: the Mark | has another name here, since it parts alternatives in the text of a grammar.
const rules = `E -> E or E
E -> E ^ E
E -> E & E
E -> E << E
E -> E >> E
E -> E + E
E -> E - E
E -> E * E
E -> E / E
E -> < E
E -> > E
E -> U
U -> - U
U -> + U
U -> ~ U
U -> ! U
U -> number
U -> name
U -> *
U -> ( E )
`

// Grammar: F16.1.
func Grammar() string { return rules }

// Precedences: F16.1.
func Precedences() []lr.Prec { return precedencesOf(parsed()) }

// Table: F16.1.
func Table() lr.Table { return tableOf(parsed()) }

func parsed() *grammar.Grammar {
	g, _, _ := grammar.Parse(rules)
	return g
}

func tableOf(g *grammar.Grammar) lr.Table {
	t, _, _ := lr.Build(g, lr.LALR, precedencesOf(g))
	return t
}

// precedencesOf: that of the end among them, since it is counted among the terminals.
func precedencesOf(g *grammar.Grammar) []lr.Prec {
	all := make([]lr.Prec, g.Terminals())
	for symbol := range all {
		terminal, _ := g.Name(symbol)
		if level := levelOf(terminal); level > 0 {
			all[symbol] = lr.Prec{Level: level, Side: lr.Left}
		}
	}
	return all
}

// levelOf: 0 of a terminal that has none.
func levelOf(terminal string) int {
	switch terminal {
	case "<", ">":
		return 1
	case "or":
		return 2
	case "^":
		return 3
	case "&":
		return 4
	case "<<", ">>":
		return 5
	case "+", "-":
		return 6
	case "*", "/":
		return 7
	}
	return 0
}

// symbolOf: the name of the terminal that a token is; false, if it is none. Not all names of the grammar are Marks, so a Mark is not just looked up there.
func symbolOf(t lexer.Token) (string, bool) {
	switch t.Kind {
	case lexer.Number, lexer.Char:
		return "number", true
	case lexer.Name:
		return "name", true
	case lexer.Mark:
		return markSymbol(t.Text)
	}
	return "", false
}

func markSymbol(mark string) (string, bool) {
	switch mark {
	case "|":
		return "or", true
	case "^", "&", "<<", ">>", "+", "-", "*", "/", "~", "!", "<", ">", "(", ")":
		return mark, true
	}
	return "", false
}
