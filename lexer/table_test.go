package lexer

import (
	"slices"
	"strings"
	"testing"

	"orrery/api"
)

// bitTexts: the bytes at which each bit is set, from bit 0 on.
var bitTexts = []string{
	" \t\r",
	"ABCDEFGHIJKLMNOPQRSTUVWXYZabcdefghijklmnopqrstuvwxyz_.",
	"0123456789",
	"0123456789ABCDEFabcdef",
	"01234567",
	"01",
	",#():=+-*/&|^~<>!",
	` !"#$%&()*+,-./0123456789:;<=>?@ABCDEFGHIJKLMNOPQRSTUVWXYZ[]^_` + "`abcdefghijklmnopqrstuvwxyz{|}~",
}

// P1505, byte by byte.
func TestTheTableIsItsRule(t *testing.T) {
	words, rule := Words(), Rule()
	if len(words) != 256 || len(rule) != 256 {
		t.Fatalf("%d words, %d of the rule", len(words), len(rule))
	}
	for b := range 256 {
		want := uint32(0)
		for bit, those := range bitTexts {
			if strings.IndexByte(those, byte(b)) >= 0 {
				want += 1 << bit
			}
		}
		if words[b] != want || rule[b] != want {
			t.Errorf("the word of %q is %08b, by the rule %08b, not %08b", byte(b), words[b], rule[b], want)
		}
	}
}

// The variable is held by itself against the rule, and a second making against it.
func TestTheVariableIsTheRule(t *testing.T) {
	rule := Rule()
	if len(kinds) != 128 {
		t.Fatalf("%d kinds", len(kinds))
	}
	for b, kind := range kinds {
		if uint32(kind) != rule[b] {
			t.Errorf("the kind of %q is %08b, not %08b", byte(b), kind, rule[b])
		}
	}
	for b, word := range rule[128:] {
		if word != 0 {
			t.Errorf("byte %d has the kind %08b", b+128, word)
		}
	}
	if makeKinds() != kinds {
		t.Error("the kinds made once more are others")
	}
}

// answers: what the calls answer of each byte.
func answers() (list []any) {
	for b := range 256 {
		c := string([]byte{byte(b)})
		for _, line := range []string{c, "a" + c, "$" + c, "%" + c, "@" + c, "1" + c, "'" + c + "'", `"` + c + `"`, `"\x` + c + `0"`, `"\` + c + `"`} {
			tokens, at, e := Lex(line)
			shown, f := Show(tokens)
			list = append(list, len(tokens), at, e, shown, f)
		}
		list = append(list, Fold(c), Quote(c), Broken(c), Rule()[b])
	}
	return list
}

// Words tells what stands since the start, so that a table that is bent is told; no other call hangs on it.
func TestWordsAloneTellsTheVariable(t *testing.T) {
	stood, before := kinds, answers()
	defer func() { kinds = stood }()
	for b := range kinds {
		for bit := range 8 {
			kinds = stood
			kinds[b] ^= 1 << bit
			want := Rule()
			want[b] ^= 1 << bit
			if !slices.Equal(Words(), want) {
				t.Fatalf("bit %d of byte %d bent: Words is %v", bit, b, Words())
			}
		}
		kinds[b] = ^stood[b]
		if !slices.Equal(answers(), before) {
			t.Fatalf("an answer hangs on byte %d of the variable", b)
		}
	}
}

// The kinds are those that lines go by: each bit against what Lex takes there.
func TestLinesGoByTheTable(t *testing.T) {
	words := Words()
	one := func(line string, kind int) bool {
		tokens, _, e := Lex(line)
		return e == api.OK && len(tokens) == 1 && tokens[0].Kind == kind && tokens[0].Text == line
	}
	for b := range 256 {
		c := string([]byte{byte(b)})
		blank, _, e := Lex(c)
		parted, _, f := Lex("<" + c + "<")
		for bit, got := range []bool{
			e == api.OK && len(blank) == 0 && f == api.OK && len(parted) == 2 && parted[0].Text == "<",
			one(c, Name),
			one(c, Number),
			one("$"+c, Number),
			one("@"+c, Number),
			one("%"+c, Number),
			one(c, Mark),
			one("'"+c+"'", Char),
		} {
			if got != (words[b]>>bit&1 == 1) {
				t.Errorf("bit %d of %q: %v in lines, the word is %08b", bit, c, got, words[b])
			}
		}
		if one("a"+c, Name) != (words[b]&(letterBit|decimalBit) != 0) {
			t.Errorf("%q in a name's tail; the word is %08b", c, words[b])
		}
	}
}

const (
	letterBit  = 2
	decimalBit = 4
)
