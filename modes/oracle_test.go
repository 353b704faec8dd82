package modes_test

import (
	"regexp"
	"slices"
	"strings"
	"testing"

	"orrery/api"
	"orrery/lexer"
	"orrery/modes"
)

// tokenOf: of a letter of a row. What stands for a sign or a register in another Kind is told by another letter.
func tokenOf(letter byte, at int) lexer.Token {
	kind, text := lexer.Mark, string([]byte{letter})
	switch letter {
	case 'a', 'x', 'y', 'A', 'X', 'Y':
		kind = lexer.Name
	case 'n':
		kind, text = lexer.Number, "1"
	case 'p':
		kind, text = lexer.Text, "("
	case 'q':
		kind, text = lexer.Char, ")"
	case 'c':
		kind, text = lexer.Name, ","
	case 's':
		kind, text = lexer.Text, "#"
	case 'r':
		kind, text = lexer.Text, "x"
	}
	return lexer.Token{Kind: kind, Text: text, At: at}
}

var (
	endsInX = regexp.MustCompile(`^(.*),[xX]$`)
	endsInY = regexp.MustCompile(`^(.*),[yY]$`)
	onlyA   = regexp.MustCompile(`^[aA]$`)
)

// mate: the first place up to which there are as many `(` as `)`.
func mate(row string) int {
	for i := range len(row) {
		if head := row[:i+1]; strings.Count(head, "(") == strings.Count(head, ")") {
			return i
		}
	}
	return -1
}

// formByText: the kind of a row of letters, and where its expression begins and ends, told by its text.
func formByText(row string) (kind, from, to int) {
	if row == "" {
		return modes.None, 0, 0
	}
	if onlyA.MatchString(row) {
		return modes.OfA, 0, 0
	}
	if strings.HasPrefix(row, "#") {
		return modes.Sharp, 1, len(row)
	}
	if i := mate(row); row[0] == '(' && i > 0 {
		inner, rest := row[1:i], row[i+1:]
		if m := endsInX.FindStringSubmatch(inner); rest == "" && m != nil {
			return modes.ParenX, 1, 1 + len(m[1])
		}
		if rest == "" {
			return modes.Paren, 1, i
		}
		if strings.EqualFold(rest, ",y") {
			return modes.ParenY, 1, i
		}
	}
	if m := endsInX.FindStringSubmatch(row); m != nil {
		return modes.WithX, 0, len(m[1])
	}
	if m := endsInY.FindStringSubmatch(row); m != nil {
		return modes.WithY, 0, len(m[1])
	}
	return modes.Plain, 0, len(row)
}

func checkRow(t *testing.T, row string) {
	t.Helper()
	list := make(tokens, len(row))
	for i := range len(row) {
		list[i] = tokenOf(row[i], i)
	}
	kind, from, to := formByText(row)
	place, want := 0, api.OK
	if kind > modes.OfA && from == to {
		kind, place, want = 0, from, api.ErrMode
	}
	f, gotPlace, e := modes.Split(list)
	if f.Kind != kind || gotPlace != place || e != want || !slices.Equal(f.Expr, list[from:to]) {
		t.Fatalf("Split of %s = %+v, %d, %v; not %d, %d, %v with the tokens %d to %d", row, f, gotPlace, e, kind, place, want, from, to)
	}
}

// rows: all rows of up to n letters.
func rows(letters string, n int, look func(string)) {
	var grow func(row []byte)
	grow = func(row []byte) {
		look(string(row))
		if len(row) == n {
			return
		}
		for i := range len(letters) {
			grow(append(row, letters[i]))
		}
	}
	grow(make([]byte, 0, n))
}

// P1702 against a second reading, of all short rows.
func TestSplitOfAllShortRows(t *testing.T) {
	rows("xy(),n", 7, func(row string) { checkRow(t, row) })
	rows("aAXY#(),n", 5, func(row string) { checkRow(t, row) })
	rows("xy(),npqcsr", 4, func(row string) { checkRow(t, row) })
}

// Long rows, whose parentheses mostly close.
func TestSplitOfLongRows(t *testing.T) {
	pieces := []string{"n", "(n)", "(n,x)", "(n),y", ",x", ",y", "(", ")", "((n)+n)", "+", "a", "#"}
	seed := uint32(17)
	next := func(n int) int {
		seed = seed*1664525 + 1013904223
		return int(seed>>8) % n
	}
	for range 20000 {
		row := ""
		for range 1 + next(8) {
			row += pieces[next(len(pieces))]
		}
		checkRow(t, row)
		checkRow(t, "("+row+")")
		checkRow(t, "("+row+",x)")
		checkRow(t, "("+row+"),y")
	}
}
