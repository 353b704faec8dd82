package lexer_test

import (
	"fmt"
	"slices"
	"testing"

	"orrery/lexer"
)

var spare = lexer.Token{Kind: 77, Text: "spare", Value: 78, At: 79}

// roomy: the list, and behind it spare room that is not zero.
func roomy(list tokens) tokens {
	return append(slices.Clone(list), spare, spare, spare)[:len(list)]
}

// Rule 4: tokens that are handed in are not changed, their spare room neither.
func TestWhatIsHandedInStays(t *testing.T) {
	for _, list := range []tokens{
		nil,
		{name(0, "a"), text(2, "b\n"), number(9, "$A", 10)},
		{text(0, "\xff"), {Kind: 9}},
		{char(5, "'a'", 98)},
	} {
		given, other := roomy(list), roomy(list)
		lexer.Show(given)
		lexer.Same(given, other)
		lexer.Same(given, nil)
		for _, got := range []tokens{given, other} {
			if !slices.Equal(got[:len(list)+3], append(slices.Clone(list), spare, spare, spare)) {
				t.Errorf("changed: %+v, not %+v", got[:len(list)+3], list)
			}
		}
	}
}

// Rule 4: nobody sees what the caller writes into what was handed out, into its spare room neither.
func TestWhatIsHandedOutIsTheCallers(t *testing.T) {
	const line = `loop: lda #$0F,'a' "b" ; go`
	first, _, _ := lexer.Lex(line)
	want := slices.Clone(first)
	second, _, _ := lexer.Lex(line)
	full := first[:cap(first)]
	for i := range full {
		full[i] = spare
	}
	third, _, _ := lexer.Lex(line)
	for _, list := range []tokens{second, third} {
		if !slices.Equal(list, want) {
			t.Errorf("what the caller wrote is seen: %+v", list)
		}
	}
	for what, table := range map[string]func() []uint32{"Words": lexer.Words, "Rule": lexer.Rule} {
		words := table()
		want := slices.Clone(words)
		words = words[:cap(words)]
		for i := range words {
			words[i] = ^words[i]
		}
		if !slices.Equal(table(), want) || !slices.Equal(lexer.Words(), lexer.Rule()) {
			t.Errorf("%s: what the caller wrote is seen", what)
		}
		if again, _, _ := lexer.Lex(line); !slices.Equal(again, second) {
			t.Errorf("%s: lines go by what was handed out", what)
		}
	}
}

// Rule 4: no token hangs on the bytes that a line was made of.
func TestWhatIsHandedInIsNotKept(t *testing.T) {
	bytes := []byte(`ab 'c' "d" 12`)
	list, _, _ := lexer.Lex(string(bytes))
	before := fmt.Sprintf("%+v", list)
	line, _ := lexer.Show(list)
	for i := range bytes {
		bytes[i] = '?'
	}
	if got := fmt.Sprintf("%+v", list); got != before {
		t.Errorf("the tokens are %s, not %s", got, before)
	}
	list[0] = spare
	wantText(t, "Show", line, `ab 'c' "d" 12`)
}

// Rule 5: the same each time, whatever was asked between.
func TestSameEachTime(t *testing.T) {
	lines := []string{"a $", "loop: lda #$0F ; go", `"a\`, "4294967296", `'\n' %102`, "", "?"}
	whole := func(line string) string {
		list, at, e := lexer.Lex(line)
		shown, f := lexer.Show(list)
		return fmt.Sprintf("%+v %d %v %q %v", list, at, e, shown, f)
	}
	var first []string
	for _, line := range lines {
		first = append(first, whole(line))
	}
	for range 3 {
		for n := range lines {
			n = len(lines) - 1 - n
			wantText(t, lines[n], whole(lines[n]), first[n])
		}
	}
}
