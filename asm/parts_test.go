package asm_test

import (
	"slices"
	"testing"

	"orrery/asm"
	"orrery/lexer"
)

// wantParts: those that are these texts.
func wantParts(t *testing.T, line string, want ...string) {
	t.Helper()
	list := lex(t, line)
	got := asm.Parts(list)
	ok := len(got) == len(want)
	for i := 0; ok && i < len(want); i++ {
		ok = lexer.Same(got[i], lex(t, want[i]))
	}
	if !ok {
		t.Errorf("Parts(%q) = %v, not %q", line, got, want)
	}
	back, from := tokens{}, 0
	for i, part := range got {
		if i > 0 {
			back = append(back, list[from])
			from++
		}
		back = append(back, part...)
		from += len(part)
	}
	if len(list) > 0 && !slices.Equal(back, list) { // their places too
		t.Errorf("Parts(%q) are not the tokens: %v", line, got)
	}
}

// P1905.
func TestParts(t *testing.T) {
	wantParts(t, "")
	wantParts(t, "; 1, 2")
	wantParts(t, "1", "1")
	wantParts(t, "1 2", "1 2")
	wantParts(t, ",", "", "")
	wantParts(t, ",,", "", "", "")
	wantParts(t, "1,", "1", "")
	wantParts(t, ",1", "", "1")
	wantParts(t, ",1,", "", "1", "")
	wantParts(t, "1,2", "1", "2")
	wantParts(t, "1,,2", "1", "", "2")
	wantParts(t, `a+1, "x,y", ',', b`, "a+1", `"x,y"`, "','", "b")
	wantParts(t, "1,(2,3),4", "1", "(2,3)", "4")
	wantParts(t, "(1,2)", "(1,2)")
	wantParts(t, "(,)", "(,)")
	wantParts(t, "(),()", "()", "()")
	wantParts(t, "((1,2),3),4", "((1,2),3)", "4")
	wantParts(t, "((1),2,(3)),4", "((1),2,(3))", "4")
	wantParts(t, "1,(2,3", "1", "(2,3")
	wantParts(t, "(,", "(,")
	wantParts(t, "),1", "),1")
	wantParts(t, "1),2,3", "1),2,3")
	wantParts(t, "1,2),3(,4", "1", "2),3(", "4")
	wantParts(t, ")(,1", ")(", "1")
	wantParts(t, "),(,1", "),(", "1")
	wantParts(t, "))((,),", "))((", "),")
}

// P1905: the signs are Mark tokens; what has the same Text and is of another Kind is none.
func TestPartsGoByKinds(t *testing.T) {
	comma := lexer.Token{Kind: lexer.Mark, Text: ","}
	for _, kind := range []int{0, lexer.Name, lexer.Number, lexer.Char, lexer.Text, 6, -1} {
		for _, told := range []string{",", "(", ")"} {
			one := lexer.Token{Kind: kind, Text: told}
			got := asm.Parts(tokens{one, comma, one})
			if len(got) != 2 || !slices.Equal(got[0], tokens{one}) || !slices.Equal(got[1], tokens{one}) {
				t.Errorf("a token of the kind %d and the text %q: %v", kind, told, got)
			}
		}
	}
	for _, told := range []string{"", ",,", "((", "))", " ,", "#"} {
		one := lexer.Token{Kind: lexer.Mark, Text: told}
		if got := asm.Parts(tokens{one, comma, one}); len(got) != 2 {
			t.Errorf("a Mark of the text %q: %v", told, got)
		}
	}
}

// P1905: of more tokens than a line has.
func TestPartsOfMany(t *testing.T) {
	const n = 100000
	comma := lexer.Token{Kind: lexer.Mark, Text: ","}
	if got := asm.Parts(slices.Repeat(tokens{comma}, n)); len(got) != n+1 {
		t.Errorf("%d parts", len(got))
	}
	open := lexer.Token{Kind: lexer.Mark, Text: "("}
	shut := lexer.Token{Kind: lexer.Mark, Text: ")"}
	deep := slices.Concat(slices.Repeat(tokens{open}, n), slices.Repeat(tokens{shut}, n-1), tokens{comma, shut, comma})
	if got := asm.Parts(deep); len(got) != 2 || len(got[0]) != 2*n+1 || len(got[1]) != 0 {
		t.Errorf("%d parts of deep parentheses", len(got))
	}
}
