package grammar

import (
	"strings"

	"orrery/api"
)

// Parse: P1301.
func Parse(text string) (*Grammar, int, api.Errno) {
	if len(text) > api.MaxText {
		return nil, 0, api.ErrBig
	}
	lines := strings.Split(text, "\n")
	var rules [][]string
	for n, line := range lines {
		words := strings.FieldsFunc(line, isBlank)
		if len(words) == 0 || words[0][0] == '#' {
			continue
		}
		if !isLine(words) {
			return nil, n, api.ErrGrammar
		}
		rules = append(rules, alternatives(words)...)
	}
	start := "" // which is no name, so that New refuses a text without a rule
	if len(rules) > 0 {
		start = rules[0][0]
	}
	terminals, others := parted(rules)
	g, err := New(terminals, others, start, rules)
	if err != api.OK {
		return nil, len(lines), err
	}
	return g, 0, api.OK
}

func isBlank(c rune) bool {
	return c == ' ' || c == '\t'
}

// isLine: does it say what a symbol may become?
func isLine(words []string) bool {
	if len(words) < 2 || !isName(words[0]) || words[1] != arrow {
		return false
	}
	for _, word := range words[2:] {
		if word != or && !isName(word) {
			return false
		}
	}
	return true
}

// alternatives: a rule for each, its left name first.
func alternatives(words []string) [][]string {
	left := words[:1:1] // without room, so that each rule grows by itself
	var rules [][]string
	rule := left
	for _, word := range words[2:] {
		if word == or {
			rules = append(rules, rule)
			rule = left
			continue
		}
		rule = append(rule, word)
	}
	return append(rules, rule)
}

// parted: the names, in the order in which the rules first have them; those that stand left are the others.
func parted(rules [][]string) (terminals, others []string) {
	lefts := make(map[string]int)
	for _, rule := range rules {
		lefts[rule[0]]++
	}
	met := make(map[string]int)
	for _, rule := range rules {
		for _, name := range rule {
			met[name]++
			if met[name] > 1 {
				continue
			}
			if lefts[name] > 0 {
				others = append(others, name)
			} else {
				terminals = append(terminals, name)
			}
		}
	}
	return terminals, others
}
