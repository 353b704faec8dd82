package lr_test

import (
	"fmt"
	"slices"
	"testing"

	"orrery/api"
	"orrery/grammar"
	"orrery/lr"
)

func copiedRows(rows [][]int) [][]int {
	var all [][]int
	for _, row := range rows {
		all = append(all, slices.Clone(row))
	}
	return all
}

func copied(x lr.Table) lr.Table {
	return lr.Table{Action: copiedRows(x.Action), Goto: copiedRows(x.Goto), Left: slices.Clone(x.Left), Size: slices.Clone(x.Size)}
}

// roomy: the list, and behind it spare room that is not 0.
func roomy[T any](list []T, mark T) []T {
	return append(slices.Clone(list), mark, mark, mark)[:len(list)]
}

func wantStays[T comparable](t *testing.T, what string, given, list []T, mark T) {
	t.Helper()
	if !slices.Equal(given, list) || !slices.Equal(given[:len(list)+3][len(list):], []T{mark, mark, mark}) {
		t.Errorf("%s changes what it is given: %v", what, given[:len(list)+3])
	}
}

func roomyRows(rows [][]int) [][]int {
	var all [][]int
	for _, row := range rows {
		all = append(all, roomy(row, 77))
	}
	return roomy(all, []int{66})
}

func wantRowsStay(t *testing.T, what string, given, rows [][]int) {
	t.Helper()
	for n, row := range rows {
		wantStays(t, what, given[n], row, 77)
	}
	for _, row := range given[:len(rows)+3][len(rows):] {
		wantInts(t, what, row, 66)
	}
}

// Rule 4: tables, tokens, precedences and words are not changed, their spare room neither.
func TestWhatIsHandedInStays(t *testing.T) {
	x, _ := plain(t, lr.SLR, "E -> E + T | T", "T -> T * F | F", "F -> ( E ) | id")
	wrong := bent(x, func(y *lr.Table) { y.Left[0] = 99 })
	for _, y := range []lr.Table{x, wrong} {
		given := lr.Table{Action: roomyRows(y.Action), Goto: roomyRows(y.Goto), Left: roomy(y.Left, 77), Size: roomy(y.Size, 77)}
		for _, tokens := range [][]int{nil, {4}, {4, 0, 4, 1, 4}, {4, 0, 3}, {2, 2, 2}, {9}} {
			list := roomy(tokens, 77)
			lr.Valid(given)
			lr.Drive(given, list)
			lr.Expected(given, list)
			lr.Fold(given, list, leafText, nodeText)
			lr.Pack(given)
			wantStays(t, "a call", list, tokens, 77)
			wantRowsStay(t, "a call", given.Action, y.Action)
			wantRowsStay(t, "a call", given.Goto, y.Goto)
			wantStays(t, "a call", given.Left, y.Left, 77)
			wantStays(t, "a call", given.Size, y.Size, 77)
		}
	}
	g := parsed(t, unclear)
	mark := lr.Prec{Level: 9, Side: lr.Right}
	for _, prec := range [][]lr.Prec{nil, {{Level: 1, Side: lr.Left}}, {{Level: 1}, {Level: 2}}, {{Level: -1}}} {
		list := roomy(prec, mark)
		lr.Build(g, lr.LALR, list)
		wantStays(t, "Build", list, prec, mark)
	}
	good, _ := lr.Pack(x)
	for _, words := range [][]uint32{nil, good, good[:9]} {
		list := roomy(words, 77)
		lr.Unpack(list)
		wantStays(t, "Unpack", list, words, 77)
	}
}

// scribble: over a list and its spare room.
func scribble[T any](mark T, lists ...[]T) {
	for _, list := range lists {
		list = list[:cap(list)]
		for i := range list {
			list[i] = mark
		}
	}
}

// listsOf: all lists of numbers of a table.
func listsOf(x lr.Table) [][]int {
	return slices.Concat(x.Action, x.Goto, [][]int{x.Left, x.Size})
}

// Rule 4: no two lists of an answer share memory, and nobody sees what is written into them.
func TestWhatIsHandedOutIsTheCallers(t *testing.T) {
	g := sums(t)
	words := func() []uint32 { x, _ := built(t, g, lr.SLR); w, _ := lr.Pack(x); return w }
	good := words()
	for what, maker := range map[string]func() lr.Table{
		"SLR":    func() lr.Table { x, _ := built(t, g, lr.SLR); return x },
		"LALR":   func() lr.Table { x, _ := built(t, g, lr.LALR); return x },
		"Unpack": func() lr.Table { x, _ := lr.Unpack(good); return x },
	} {
		want := maker()
		for n := range listsOf(want) {
			x := maker()
			scribble(98, listsOf(x)[n])
			for m, list := range listsOf(x) {
				if m != n {
					wantInts(t, fmt.Sprintf("%s: list %d beside list %d", what, m, n), list, listsOf(want)[m]...)
				}
			}
		}
		wantTable(t, what, maker(), want)
	}
	states, _ := lr.States(g)
	for n := range states {
		others, _ := lr.States(g)
		scribble(lr.Item{Rule: 98}, others[n])
		for m, state := range others {
			if m != n {
				wantItems(t, "a state", state, itemText(states[m]))
			}
		}
	}
	scribble(99, good)
	if !slices.Equal(words(), words()) || slices.Equal(words(), good) {
		t.Error("Pack: what the caller wrote is seen")
	}
	look, _ := lr.Look(g, lr.LALR, 5, 5)
	scribble(98, look)
	x, _ := built(t, g, lr.SLR)
	rules, _, _ := lr.Drive(x, []int{4})
	expected, _ := lr.Expected(x, nil)
	scribble(98, rules, expected)
	wantStop(t, x, nil, 0, api.ErrSyntax, 2, 4)
	wantDrive(t, x, []int{4}, 5, 3, 1)
	_, conflicts := built(t, parsed(t, unclear), lr.LALR)
	scribble(lr.Conflict{}, conflicts)
	wantGrammarStays(t, g)
}

// wantGrammarStays: it is still that of the chapter.
func wantGrammarStays(t *testing.T, g *grammar.Grammar) {
	t.Helper()
	if g.Text() != sums(t).Text() || fmt.Sprint(g.Rules()) != fmt.Sprint(sums(t).Rules()) {
		t.Errorf("the grammar is changed: %q", g.Text())
	}
}

// Rule 4: what is handed in is not kept, and what is handed out shares no memory with it.
func TestWhatIsHandedInIsNotKept(t *testing.T) {
	x, _ := built(t, sums(t), lr.SLR)
	words, _ := lr.Pack(x)
	back, _ := lr.Unpack(words)
	want, first := copied(back), slices.Clone(words)
	scribble(98, listsOf(x)...)
	if !slices.Equal(words, first) {
		t.Error("Pack shares memory with the table")
	}
	scribble(98, words)
	wantTable(t, "Unpack", back, want)
}

// Rule 4: the parts that node is handed are its own, whatever it writes behind them.
func TestPartsAreTheNodesOwn(t *testing.T) {
	x, g := plain(t, lr.SLR, "E -> E + T | T", "T -> T * F | F", "F -> ( E ) | id")
	tokens := numbers(t, g, "id * ( id + id ) + id * id")
	want, _, _, _ := folded(x, tokens)
	var kept [][]string
	var copies [][]string
	got, _, e := lr.Fold(x, tokens, leafText, func(rule int, parts []string) string {
		text := nodeText(rule, parts)
		kept, copies = append(kept, parts), append(copies, slices.Clone(parts))
		_ = append(parts, "x", "y", "z")
		return text
	})
	if got != want || e != api.OK {
		t.Errorf("Fold = %q, %v, not %q", got, e, want)
	}
	for n, parts := range kept {
		if !slices.Equal(parts, copies[n]) {
			t.Errorf("parts were written over: %q, not %q", parts, copies[n])
		}
	}
	got, _, e = lr.Fold(x, tokens, leafText, func(rule int, parts []string) string {
		text := nodeText(rule, parts)
		scribble("x", parts)
		return text
	})
	if got != want || e != api.OK {
		t.Errorf("Fold = %q, %v, not %q", got, e, want)
	}
}

// Rule 1: leaf and node may write into what was handed in, and call what they like: Fold goes by what it was given.
func TestFoldGoesByWhatItWasGiven(t *testing.T) {
	x, g := plain(t, lr.SLR, "E -> E + T | T", "T -> T * F | F", "F -> ( E ) | id")
	tokens := numbers(t, g, "id * ( id + id )")
	want, _, _, calls := folded(x, tokens)
	for moment := range calls {
		y, list := copied(x), slices.Clone(tokens)
		left := moment
		spoil := func() {
			if left == 0 {
				scribble(-77, listsOf(y)...)
				scribble(nil, y.Action, y.Goto)
				scribble(-77, list)
			}
			left--
		}
		got, at, e := lr.Fold(y, list,
			func(i int) string { spoil(); return leafText(i) },
			func(rule int, parts []string) string { spoil(); return nodeText(rule, parts) })
		if got != want || at != 0 || e != api.OK {
			t.Errorf("Fold = %q, %d, %v, not %q", got, at, e, want)
		}
	}
	depth := 0
	var again func(i int) string
	again = func(i int) string {
		if depth++; depth < 4 {
			inner, _, _ := lr.Fold(x, tokens[2:], again, nodeText)
			if inner == "" {
				t.Error("the inner one has no worth")
			}
		}
		return leafText(i)
	}
	if got, _, e := lr.Fold(x, tokens, again, nodeText); got != want || e != api.OK {
		t.Errorf("Fold = %q, %v, not %q", got, e, want)
	}
}

// Rule 5: the same answers each time, of two grammars of one text, too.
func TestSameEachTime(t *testing.T) {
	whole := func(g *grammar.Grammar) string {
		states, _ := lr.States(g)
		text := fmt.Sprint(states)
		for _, kind := range []int{lr.SLR, lr.LALR} {
			x, conflicts, e := lr.Build(g, kind, []lr.Prec{{Level: 1, Side: lr.Left}})
			text += fmt.Sprint(x, conflicts, e)
		}
		return text
	}
	for _, lines := range append(slices.Clone(known), list{unclear}, list{"S -> A S | b | S S", "A -> a | | S"}) {
		g, h := parsed(t, lines...), parsed(t, lines...)
		first := whole(g)
		for range 5 {
			if whole(g) != first || whole(h) != first {
				t.Errorf("%q: another answer", lines)
			}
		}
	}
}
