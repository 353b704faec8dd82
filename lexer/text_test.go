package lexer_test

import (
	"math/rand"
	"strings"
	"testing"
	"unicode/utf8"

	"orrery/api"
	"orrery/lexer"
)

// P1504, the chapter's examples.
func TestExamplesOfTexts(t *testing.T) {
	wantText(t, "Quote", lexer.Quote("a\"\n\xff"), `"a\"\x0a\xff"`)
	wantText(t, "Fold", lexer.Fold("aZ_é"), "AZ_é")
	wantBroken(t, "é\x80", 2)
}

func TestFold(t *testing.T) {
	for b := range 256 {
		c := string([]byte{byte(b)})
		want := c
		if n := strings.IndexByte("abcdefghijklmnopqrstuvwxyz", byte(b)); n >= 0 {
			want = "ABCDEFGHIJKLMNOPQRSTUVWXYZ"[n : n+1]
		}
		wantText(t, "Fold", lexer.Fold(c), want)
		wantText(t, "Fold", lexer.Fold("x"+c+"Y"+c), "X"+want+"Y"+want)
	}
	for _, same := range []string{"", "é", "ß", "ıſ", "ÿ", "\xff\xc3", "\xed\xa0\x80", "\ufffd", "0_.", "\x00\n"} {
		wantText(t, "Fold", lexer.Fold(same), same)
	}
	wantText(t, "Fold", lexer.Fold("a\xc3b\xe2\x82c\xffd"), "A\xc3B\xe2\x82C\xffD")
	wantText(t, "Fold", lexer.Fold(strings.Repeat("abc", 100000)), strings.Repeat("ABC", 100000))
}

// quoted: Quote of one byte that is no part of a character of several.
func quoted(b byte) string {
	const digits = "0123456789abcdef"
	if b == '"' || b == '\\' {
		return `\` + string([]byte{b})
	}
	if b < 0x20 || b >= 0x7f {
		return `\x` + string([]byte{digits[b/16], digits[b%16]})
	}
	return string([]byte{b})
}

func TestQuoteOfEachByte(t *testing.T) {
	wantText(t, "Quote", lexer.Quote(""), `""`)
	for b := range 256 {
		c, told := string([]byte{byte(b)}), quoted(byte(b))
		wantText(t, "Quote", lexer.Quote(c), `"`+told+`"`)
		wantText(t, "Quote", lexer.Quote("a"+c), `"a`+told+`"`)
		wantText(t, "Quote", lexer.Quote(c+"a"), `"`+told+`a"`)
		wantText(t, "Quote", lexer.Quote("é"+c+"'"+c+"€"), `"é`+told+"'"+told+`€"`)
	}
	for b := 0xa0; b < 0xc0; b++ { // what could follow the first byte of a character makes one of it
		c := string([]byte{0xc3, byte(b)})
		wantText(t, "Quote", lexer.Quote(c), `"`+c+`"`)
	}
}

func TestQuoteOfCharacters(t *testing.T) {
	for _, c := range []string{"é", "€", "𝄞", "\u0080", "\u009f", "\u00a0", "\u07ff", "\u0800", "\ud7ff", "\ue000", "\ufffd", "\uffff", "\U00010000", "\U0010ffff", "\ufeff", "\u2028"} {
		wantText(t, "Quote", lexer.Quote(c), `"`+c+`"`)
		wantText(t, "Quote", lexer.Quote("a"+c+c+"\xff"+c), `"a`+c+c+`\xff`+c+`"`)
	}
	for _, c := range []struct{ s, told string }{
		{"\xc3", `\xc3`}, {"a\xc3", `a\xc3`}, {"\xc3a", `\xc3a`}, {"é\xa9", `é\xa9`}, {"\xe2\x82", `\xe2\x82`}, {"\xe2\x82a", `\xe2\x82a`}, {"\xe2\x82é", `\xe2\x82é`}, {"\xe2é", `\xe2é`},
		{"\xf0\x9d\x84", `\xf0\x9d\x84`}, {"\xf0\x9d\x84𝄞", `\xf0\x9d\x84𝄞`}, {"\xed\xa0\x80", `\xed\xa0\x80`}, {"\xed\xbf\xbf", `\xed\xbf\xbf`}, {"\xc0\x80", `\xc0\x80`}, {"\xc1\xbf", `\xc1\xbf`}, {"\xe0\x9f\xbf", `\xe0\x9f\xbf`}, {"\xf0\x8f\xbf\xbf", `\xf0\x8f\xbf\xbf`},
		{"\xf4\x90\x80\x80", `\xf4\x90\x80\x80`}, {"\xf5", `\xf5`}, {"\xef\xbf", `\xef\xbf`}, {"\xef\xbf\ufffd", "\\xef\\xbf\ufffd"}, {"\ufffd\xef", "\ufffd\\xef"},
		{`\n`, `\\n`}, {`\x41`, `\\x41`}, {`\"`, `\\\"`}, {"\\\n", `\\\x0a`}, {"\r\t\x00\x7f", `\x0d\x09\x00\x7f`}, {"'", "'"}, {"a;b", "a;b"},
	} {
		wantText(t, "Quote", lexer.Quote(c.s), `"`+c.told+`"`)
	}
}

// P1506: the Text token of Quote has the text, of any bytes that fit in a line.
func TestQuoteThereAndBack(t *testing.T) {
	r := rand.New(rand.NewSource(17))
	parts := []string{"a", "\"", "\\", "'", "x", "\x00", "\n", "\x7f", "é", "€", "𝄞", "\ufffd", "\xc3", "\xa9", "\xe2\x82", "\xed\xa0\x80", "\xff", ";", " "}
	for range 20000 {
		s := ""
		for range r.Intn(12) {
			s += parts[r.Intn(len(parts))]
		}
		told := lexer.Quote(s)
		wantTokens(t, told, text(0, s))
		wantTokens(t, " "+told+";", text(1, s))
		wantShow(t, tokens{text(3, s)}, told)
	}
	for first := range 256 {
		for second := range 256 {
			s := string([]byte{byte(first), byte(second)})
			wantTokens(t, lexer.Quote(s), text(0, s))
		}
	}
	long := strings.Repeat("\xff", 1<<20)
	wantText(t, "Quote", lexer.Quote(long), `"`+strings.Repeat(`\xff`, 1<<20)+`"`)
	wantFault(t, lexer.Quote(long), api.MaxLine, api.ErrBig)
}

func wantBroken(t *testing.T, s string, want int) {
	t.Helper()
	if got := lexer.Broken(s); got != want {
		t.Errorf("Broken(%q) = %d, not %d", s, got, want)
	}
}

func TestBrokenOfEachByte(t *testing.T) {
	for b := range 256 {
		c := string([]byte{byte(b)})
		for _, ahead := range []string{"", "a", "é", "€𝄞", "\ufffd", "\x00\n\x7f"} {
			want := -1
			if b >= 0x80 {
				want = len(ahead)
			}
			wantBroken(t, ahead+c, want)
			wantBroken(t, ahead+c+"a", want)
			wantBroken(t, ahead+c+c, want)
		}
	}
}

func TestBroken(t *testing.T) {
	for _, s := range []string{"", "a", "é", "€", "𝄞", "\ufffd", "\u0080", "\uffff", "\U0010ffff", "\x00\x7f\n", "aé€𝄞\ufffdb", strings.Repeat("é", 100000)} {
		wantBroken(t, s, -1)
	}
	for _, none := range []string{"\x80", "\xbf", "\xc3", "\xe2\x82", "\xe2", "\xf0\x9d\x84", "\xf0\x9d", "\xed\xa0\x80", "\xed\xbf\xbf", "\xc0\x80", "\xc1\xbf", "\xe0\x80\x80", "\xe0\x9f\xbf", "\xf0\x80\x80\x80", "\xf0\x8f\xbf\xbf", "\xf4\x90\x80\x80", "\xf5\x80\x80\x80", "\xff", "\xef\xbf", "\xef"} {
		wantBroken(t, none, 0)
		wantBroken(t, none+"a", 0)
		wantBroken(t, none+"é", 0)
		wantBroken(t, none+"\ufffd", 0)
		wantBroken(t, "aé"+none+"b", 3)
		wantBroken(t, "\ufffd"+none, 3)
		wantBroken(t, "𝄞€"+none+none, 7)
	}
	for first := 0x80; first < 256; first++ {
		for second := range 256 {
			for _, third := range []string{"", "a", "\x80", "\xbf", "\x80\x80", "\xbf\xbf", "\x80a"} {
				s := string([]byte{byte(first), byte(second)}) + third
				wantBroken(t, s, firstBroken(s))
				if (lexer.Broken(s) < 0) != utf8.ValidString(s) {
					t.Errorf("%q is right: %v", s, utf8.ValidString(s))
				}
			}
		}
	}
}
