package expr

import (
	"slices"

	"orrery/lexer"
)

// part: what a symbol is while an expression is read: a Mark by itself its text, all else a node.
type part struct {
	mark string
	node node
}

// reader: puts a tree together as the tables go along the tokens.
type reader struct {
	tokens []lexer.Token
	tree   *Tree
}

// leaf: the part that a token is.
func (r reader) leaf(i int) part {
	t := r.tokens[i]
	switch t.Kind {
	case lexer.Mark:
		return part{mark: t.Text}
	case lexer.Name:
		if !slices.Contains(r.tree.names, t.Text) {
			r.tree.names = append(r.tree.names, t.Text)
		}
		return part{node: name(t.Text)}
	}
	return part{node: number(t.Value)}
}

// join: the part that a rule makes of its right side. What the rule is shows in how many parts there are, and which of them are Marks.
func (r reader) join(rule int, parts []part) part {
	r.tree.rules = append(r.tree.rules, rule)
	first := parts[0]
	switch {
	case len(parts) == 1 && first.node == nil: // a Mark where a value is expected
		r.tree.place = true
		return part{node: place{}}
	case len(parts) == 1:
		return first
	case len(parts) == 2:
		return part{node: ahead{mark: first.mark, of: parts[1].node}}
	case first.node == nil: // parentheses
		return parts[1]
	}
	return part{node: between{mark: parts[1].mark, left: first.node, right: parts[2].node}}
}
