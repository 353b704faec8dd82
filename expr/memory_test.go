package expr_test

import (
	"fmt"
	"maps"
	"reflect"
	"slices"
	"sync"
	"testing"

	"orrery/api"
	"orrery/expr"
	"orrery/lexer"
	"orrery/lr"
)

var spare = lexer.Token{Kind: 77, Text: "spare", Value: 78, At: 79}

// told: all that a tree tells.
func told(tree *expr.Tree) string {
	value, e := tree.Eval(names{"a": 300, "b": -7}, 9)
	return fmt.Sprint(tree.Text(), tree.Names(), tree.Rules(), tree.Known(), value, e)
}

// scribble: over a list and its spare room.
func scribble[T any](list []T, mark T) {
	list = list[:cap(list)]
	for i := range list {
		list[i] = mark
	}
}

// Rule 4: tokens that are handed in are not changed, their spare room neither.
func TestTokensStay(t *testing.T) {
	for _, text := range []string{"", "1", "a+b*a", "1+", "3 4", `"x"`, "<a-(*)", "( , )"} {
		list := lexed(t, text)
		given := append(slices.Clone(list), spare, spare, spare)[:len(list)]
		tree, _, _ := expr.Parse(given)
		told(tree)
		wantList(t, text, given[:len(list)+3], append(slices.Clone(list), spare, spare, spare)...)
	}
	big := slices.Repeat(tokens{number(1)}, api.MaxLine+1)
	given := slices.Clone(big)
	expr.Parse(given)
	wantList(t, "too many tokens", given, big...)
}

// Rule 4: names that are handed in are not changed, be they asked or not.
func TestNamesStay(t *testing.T) {
	have := names{"a": 300, "b": -7, "big": overMost, "": 4}
	given := maps.Clone(have)
	for _, text := range []string{"a+b", "none", "big", "a/(b+7)", "1+", "?", "*"} {
		expr.Value(text, given, 9)
		if !maps.Equal(given, have) {
			t.Fatalf("%s: the names are %v", text, given)
		}
	}
}

// Rule 4: a tree keeps neither the tokens that it was made of nor the names that it was asked with.
func TestWhatIsHandedInIsNotKept(t *testing.T) {
	list := lexed(t, "<a+b*(a-*)^$0f")
	tree := treeOf(t, list)
	before := told(tree)
	scribble(list, spare)
	if after := told(tree); after != before {
		t.Errorf("the tree is %s, not %s", after, before)
	}
	have := names{"a": 1, "b": 2}
	first, _ := tree.Eval(have, 9)
	have["a"], have["b"] = 1000, 2000
	if second, _ := tree.Eval(have, 9); second == first {
		t.Error("the names are those of another call")
	}
	if after := told(tree); after != before {
		t.Errorf("the tree is %s, not %s", after, before)
	}
}

// Rule 4: nobody sees what the caller writes into what a tree hands out.
func TestTreeStays(t *testing.T) {
	list := lexed(t, "<a+b*(a-*)^$0f")
	tree, other := treeOf(t, list), treeOf(t, list)
	before := told(tree)
	scribble(tree.Names(), "b")
	scribble(tree.Rules(), 98)
	_ = append(tree.Names(), "c")
	_ = append(tree.Rules(), 99)
	for _, one := range []*expr.Tree{tree, other, treeOf(t, list)} {
		if after := told(one); after != before {
			t.Errorf("the tree is %s, not %s", after, before)
		}
	}
}

// listsOf: all lists of numbers of a table.
func listsOf(x lr.Table) [][]int {
	return slices.Concat(x.Action, x.Goto, [][]int{x.Left, x.Size})
}

// Rule 4, F16.1: whoever asks for the tables gets the same, in new memory, and no two of their lists share any.
func TestTableIsTheCallers(t *testing.T) {
	want := expr.Table()
	for n := range listsOf(want) {
		got := expr.Table()
		scribble(listsOf(got)[n], 98)
		for m, list := range listsOf(got) {
			if m != n {
				wantList(t, fmt.Sprintf("list %d beside list %d", m, n), list, listsOf(want)[m]...)
			}
		}
	}
	got := expr.Table()
	scribble(got.Action, nil)
	scribble(got.Goto, nil)
	if !reflect.DeepEqual(expr.Table(), want) {
		t.Error("what the caller wrote is seen in the tables")
	}
	wantValue(t, "1+2*3", nil, 0, 7)
}

func TestPrecedencesAreTheCallers(t *testing.T) {
	want := slices.Clone(expr.Precedences())
	table := expr.Table()
	scribble(expr.Precedences(), lr.Prec{Level: 9, Side: lr.Right})
	wantList(t, "Precedences", expr.Precedences(), want...)
	if !reflect.DeepEqual(expr.Table(), table) {
		t.Error("what the caller wrote is seen in the tables")
	}
	wantText(t, lexed(t, "1-2-3*4"), "((1-2)-(3*4))")
}

// Rule 5: the same each time, whatever was asked between, and whoever asks beside.
func TestSameEachTime(t *testing.T) {
	texts := []string{"a+b", "1+", "<a", "?", "a/0", "none", "*-*", "4294967296", "(a|b)^3", ""}
	whole := func(text string) string {
		value, at, e := expr.Value(text, names{"a": 300, "b": -7}, 9)
		list, _, _ := lexer.Lex(text)
		tree, place, f := expr.Parse(list)
		return fmt.Sprint(value, at, e, place, f, told(tree))
	}
	var first []string
	for _, text := range texts {
		first = append(first, whole(text))
	}
	var all sync.WaitGroup
	for range 4 {
		all.Go(func() {
			for n := range texts {
				n = len(texts) - 1 - n
				if got := whole(texts[n]); got != first[n] {
					t.Errorf("%q: %s, not %s", texts[n], got, first[n])
				}
			}
		})
	}
	all.Wait()
}
