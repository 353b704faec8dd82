package grammar_test

import (
	"fmt"
	"math/rand"
	"slices"
	"testing"

	"orrery/grammar"
)

// A second working-out, by all forms of a small grammar that are not too long: slow, and without sets that grow.

// small: a grammar of few symbols at random, with rules of this many symbols, or more, but two at most: three nonterminals at most, some of them, it may be, without a rule.
func small(t *testing.T, r *rand.Rand, least int) *grammar.Grammar {
	t.Helper()
	terminals, others := list{"a", "b"}[:1+r.Intn(2)], list{"S", "T", "U"}[:1+r.Intn(3)]
	all := append(slices.Clone(terminals), others...)
	var rules rows
	for range 1 + r.Intn(6) {
		rule := list{others[r.Intn(len(others))]}
		for range least + r.Intn(3-least) {
			rule = append(rule, all[r.Intn(len(all))])
		}
		rules = append(rules, rule)
	}
	return made(t, terminals, others, others[r.Intn(len(others))], rules...)
}

// forms: all that symbols can become, by forms of at most this many symbols. A form is a text with a byte for each symbol.
func forms(g *grammar.Grammar, from []int, most int) map[string]bool {
	return allForms(g, from, most, false)
}

// allForms: with pieces, if they are asked for, the pieces of forms, too, so that none need be long.
func allForms(g *grammar.Grammar, from []int, most int, pieces bool) map[string]bool {
	text := make([]byte, len(from))
	for i, s := range from {
		text[i] = byte(s)
	}
	rights := make([]list, g.Symbols())
	for _, r := range g.Rules() {
		right := make([]byte, len(r.Right))
		for i, s := range r.Right {
			right[i] = byte(s)
		}
		rights[r.Left] = append(rights[r.Left], string(right))
	}
	seen := map[string]bool{string(text): true}
	waiting := list{string(text)}
	meet := func(form string) {
		if !seen[form] {
			seen[form] = true
			waiting = append(waiting, form)
		}
	}
	for len(waiting) > 0 {
		form := waiting[0]
		waiting = waiting[1:]
		if pieces && len(form) > 1 {
			meet(form[1:])
			meet(form[:len(form)-1])
		}
		for i := range len(form) {
			for _, right := range rights[form[i]] {
				if len(form)-1+len(right) <= most {
					meet(form[:i] + right + form[i+1:])
				}
			}
		}
	}
	return seen
}

// Three nonterminals need at most this many symbols more than there are, since rules make a form longer by one, and the way to what is asked for goes by no nonterminal twice.
const room = 3

func slowNullable(g *grammar.Grammar, symbols []int) bool {
	return forms(g, symbols, len(symbols)+room)[""]
}

func slowFirst(g *grammar.Grammar, symbols []int) []int {
	first := map[int]bool{}
	for form := range forms(g, symbols, len(symbols)+room) {
		if form != "" && int(form[0]) < g.Terminals() {
			first[int(form[0])] = true
		}
	}
	return rising(first)
}

// slowFollow: of all symbols at once.
func slowFollow(g *grammar.Grammar) map[int][]int {
	follow := map[int]map[int]bool{}
	for form := range allForms(g, []int{g.Start(), g.Terminals() - 1}, 3+room, true) {
		for i := range max(len(form)-1, 0) {
			left, right := int(form[i]), int(form[i+1])
			if left < g.Terminals() || right >= g.Terminals() {
				continue
			}
			if follow[left] == nil {
				follow[left] = map[int]bool{}
			}
			follow[left][right] = true
		}
	}
	lists := map[int][]int{}
	for s, set := range follow {
		lists[s] = rising(set)
	}
	return lists
}

func rising(set map[int]bool) []int {
	var all []int
	for s := range set {
		all = append(all, s)
	}
	slices.Sort(all)
	return all
}

// slowTexts: for each symbol all texts of terminals of at most this many symbols.
func slowTexts(g *grammar.Grammar, most int) []map[string]bool {
	texts := make([]map[string]bool, g.Symbols())
	for s := range texts {
		texts[s] = map[string]bool{}
		if s < g.Terminals() {
			texts[s][string([]byte{byte(s)})] = true
		}
	}
	for more := true; more; {
		more = false
		for _, r := range g.Rules() {
			whole := map[string]bool{"": true}
			for _, s := range r.Right {
				longer := map[string]bool{}
				for head := range whole {
					for tail := range texts[s] {
						if len(head)+len(tail) <= most {
							longer[head+tail] = true
						}
					}
				}
				whole = longer
			}
			for text := range whole {
				more = more || !texts[r.Left][text]
				texts[r.Left][text] = true
			}
		}
	}
	return texts
}

// slowLeast: of the texts the shortest, and of those the least.
func slowLeast(texts map[string]bool) ([]int, bool) {
	var best []int
	found := false
	for text := range texts {
		list := make([]int, len(text))
		for i := range list {
			list[i] = int(text[i])
		}
		if !found || len(list) < len(best) || len(list) == len(best) && slices.Compare(list, best) < 0 {
			best, found = list, true
		}
	}
	return best, found
}

// slowUseless goes by derivations of the nonterminals alone, since terminals stand in no one's way: those that are in no form which the start becomes and which becomes nothing are of no use.
func slowUseless(g *grammar.Grammar) []int {
	var rules rows
	for _, r := range g.Rules() {
		names := list{fmt.Sprint("N", r.Left)}
		for _, s := range r.Right {
			if s >= g.Terminals() {
				names = append(names, fmt.Sprint("N", s))
			}
		}
		rules = append(rules, names)
	}
	var others list
	for s := g.Terminals(); s < g.Symbols(); s++ {
		others = append(others, fmt.Sprint("N", s))
	}
	bare, _ := grammar.New(nil, others, fmt.Sprint("N", g.Start()), rules)
	ends := map[byte]bool{}
	for s := range bare.Symbols() {
		ends[byte(s)] = slowNullable(bare, []int{s})
	}
	used := map[int]bool{}
	for form := range forms(bare, []int{bare.Start()}, 2+room) {
		all := true
		for i := range len(form) {
			all = all && ends[form[i]]
		}
		for i := range len(form) {
			used[int(form[i])-1+g.Terminals()] = used[int(form[i])-1+g.Terminals()] || all
		}
	}
	var all []int
	for s := g.Terminals(); s < g.Symbols(); s++ {
		if !used[s] {
			all = append(all, s)
		}
	}
	return all
}

// slowReplay puts each rule in place of the last nonterminal; false, if one does not fit.
func slowReplay(g *grammar.Grammar, rules []int) ([]int, bool) {
	form := []int{g.Start()}
	for _, n := range rules {
		at := len(form) - 1
		for at >= 0 && form[at] < g.Terminals() {
			at--
		}
		if at < 0 || n < 0 || n >= len(g.Rules()) || g.Rules()[n].Left != form[at] {
			return nil, false
		}
		form = slices.Concat(form[:at], g.Rules()[n].Right, form[at+1:])
	}
	return form, true
}
