package lexer_test

import (
	"fmt"
	"strings"
	"testing"
	"unicode/utf8"

	"orrery/api"
)

// escapes: of one byte behind the `\`, with what they mean.
var escapes = []struct {
	told  string
	value int
}{{`\n`, 10}, {`\r`, 13}, {`\t`, 9}, {`\0`, 0}, {`\\`, 92}, {`\'`, 39}, {`\"`, 34}}

// P1501: each byte in a Char as it is.
func TestCharOfEachByte(t *testing.T) {
	for b := range 256 {
		line := "'" + string([]byte{byte(b)}) + "'"
		switch {
		case b == '\'':
			wantFault(t, line, 1, api.ErrToken)
		case b == '\\': // it escapes the closing mark
			wantFault(t, line, 3, api.ErrToken)
		case b >= 0x20 && b <= 0x7e:
			wantTokens(t, line, char(0, line, b))
			wantTokens(t, "a "+line+"b", name(0, "a"), char(2, line, b), name(5, "b"))
		default:
			wantFault(t, line, 1, api.ErrToken)
			wantFault(t, " x"+line, 3, api.ErrToken)
		}
	}
	wantTokens(t, `'"'`, char(0, `'"'`, 34))
	wantFault(t, "'é'", 1, api.ErrToken)
	wantFault(t, "'\u0080'", 1, api.ErrToken)
}

// Each byte behind a `\`, in both kinds of quotation marks.
func TestEscapeOfEachByte(t *testing.T) {
	for b := range 256 {
		told := `\` + string([]byte{byte(b)})
		value := -1
		for _, e := range escapes {
			if e.told == told {
				value = e.value
			}
		}
		switch {
		case value >= 0:
			wantTokens(t, "'"+told+"'", char(0, "'"+told+"'", value))
			wantTokens(t, `"`+told+`"`, text(0, string([]byte{byte(value)})))
			wantTokens(t, `"a`+told+told+`b"`, text(0, "a"+strings.Repeat(string([]byte{byte(value)}), 2)+"b"))
		case b == 'x':
			wantFault(t, "'"+told+"'", 3, api.ErrToken)
			wantFault(t, `"`+told+`"`, 3, api.ErrToken)
		default:
			wantFault(t, "'"+told+"'", 2, api.ErrToken)
			wantFault(t, `"`+told+`"`, 2, api.ErrToken)
			wantFault(t, ` "ab`+told, 5, api.ErrToken)
		}
	}
	wantFault(t, `"\é"`, 2, api.ErrToken)
}

// Each byte by two hexadecimal digits, of both sizes.
func TestEachByteByDigits(t *testing.T) {
	for b := range 256 {
		for _, form := range []string{`\x%02x`, `\x%02X`} {
			told := fmt.Sprintf(form, b)
			wantTokens(t, "'"+told+"'", char(0, "'"+told+"'", b))
			wantTokens(t, `"`+told+`"`, text(0, string([]byte{byte(b)})))
			wantTokens(t, `"`+told+told[2:]+`"`, text(0, string([]byte{byte(b)})+told[2:]))
		}
	}
	wantTokens(t, `"\xaB\xBa"`, text(0, "\xab\xba"))
	for b := range 256 {
		c := string([]byte{byte(b)})
		if !strings.Contains("0123456789abcdefABCDEF", c) {
			for _, mark := range []string{"'", `"`} {
				wantFault(t, mark+`\x`+c+"0"+mark, 3, api.ErrToken)
				wantFault(t, mark+`\x0`+c+mark, 4, api.ErrToken)
			}
		}
	}
}

func TestCharsThatAreNone(t *testing.T) {
	for _, c := range []struct {
		line string
		at   int
	}{
		{"'", 1}, {"''", 1}, {"'''", 1}, {"'a", 2}, {"'ab'", 2}, {"'a b'", 2}, {"'  '", 2}, {`'a"`, 2}, {`'a\'`, 2}, {"'a\x00'", 2}, {"'a\xff'", 2}, {"'aé'", 2},
		{`'\`, 2}, {`'\'`, 3}, {`'\n`, 3}, {`'\nn'`, 3}, {`'\n\n'`, 3}, {`'\q'`, 2}, {`'\'a'`, 3}, {`'\\\'`, 3},
		{`'\x`, 3}, {`'\x'`, 3}, {`'\xg`, 3}, {`'\x4`, 4}, {`'\x4'`, 4}, {`'\x4g'`, 4}, {`'\x41`, 5}, {`'\x411'`, 5}, {`'\X41'`, 2}, {"'\n'", 1}, {"'\t'", 1},
	} {
		wantFault(t, c.line, c.at, api.ErrToken)
		wantFault(t, "'a' "+c.line, c.at+4, api.ErrToken)
		wantFault(t, `"é" `+c.line, c.at+5, api.ErrToken)
	}
	wantFault(t, "'a'''", 4, api.ErrToken)
}

func TestTexts(t *testing.T) {
	for _, c := range []struct{ line, means string }{
		{`""`, ""}, {`"a"`, "a"}, {`"a b"`, "a b"}, {`"'"`, "'"}, {`"''"`, "''"}, {`"\""`, `"`}, {`"\\"`, `\`}, {`"\\\\"`, `\\`}, {`"\\n"`, `\n`}, {`"\\x41"`, `\x41`},
		{`"\x5cn"`, `\n`}, {`"\x22"`, `"`}, {`"é"`, "é"}, {`"€"`, "€"}, {`"𝄞"`, "𝄞"}, {`"aé€𝄞b"`, "aé€𝄞b"}, {`"\xc3\xa9"`, "é"}, {`"é\xff"`, "é\xff"}, {"\"\u0080\u009f\u00a0\"", "\u0080\u009f\u00a0"},
		{"\"\u07ff\u0800\uffff\"", "\u07ff\u0800\uffff"}, {"\"\U00010000\U0010ffff\"", "\U00010000\U0010ffff"}, {"\"\ud7ff\ue000\"", "\ud7ff\ue000"}, {"\"\ufffd\"", "\ufffd"}, {"\"a\ufffd\ufffdb\"", "a\ufffd\ufffdb"}, {"\"\ufeff\u2028\"", "\ufeff\u2028"},
		{`" ~"`, " ~"}, {`"\x00\x1f\x7f\x80"`, "\x00\x1f\x7f\x80"}, {`"$ % @ ' ; <<"`, "$ % @ ' ; <<"},
	} {
		wantTokens(t, c.line, text(0, c.means))
		wantTokens(t, " "+c.line+c.line+"1", text(1, c.means), text(1+len(c.line), c.means), number(1+2*len(c.line), "1", 1))
	}
	wantTokens(t, `"""a"`, text(0, ""), text(2, "a"))
}

func TestTextsThatAreNone(t *testing.T) {
	for _, c := range []struct {
		line string
		at   int
	}{
		{`"`, 1}, {`"a`, 2}, {`"é`, 3}, {`"a'`, 3}, {`"\"`, 3}, {`"a\`, 3}, {`"\`, 2}, {`"\\\`, 4}, {`"\q"`, 2}, {`"\X41"`, 2}, {`"\1"`, 2}, {`"\ "`, 2}, {"\"\\\n\"", 2},
		{`"\x`, 3}, {`"\x"`, 3}, {`"\xg"`, 3}, {`"\x4`, 4}, {`"\x4"`, 4}, {`"\x4g"`, 4}, {`"\x41`, 5}, {`"é\x4"`, 6},
		{"\"\n\"", 1}, {"\"\t\"", 1}, {"\"a\x00\"", 2}, {"\"a\x1f\"", 2}, {"\"a\x7f\"", 2}, {"\"é\x7f\"", 3},
		{"\"\x80\"", 1}, {"\"\xbf\"", 1}, {"\"\xff\"", 1}, {"\"\xc3\"", 1}, {"\"a\xc3", 2}, {"\"\xc3a\"", 1}, {"\"é\xa9\"", 3}, {"\"\xe2\x82\"", 1}, {"\"\xe2\"", 1}, {"\"\xe2\x82", 1}, {"\"\xe2\x82\xc3\xa9\"", 1}, {"\"\xf0\x9d\x84\"", 1}, {"\"\xf0\x9d\x84", 1},
		{"\"\xed\xa0\x80\"", 1}, {"\"\xed\xbf\xbf\"", 1}, {"\"a\xed\xa0\x80\xed\xb0\x80\"", 2}, // surrogates
		{"\"\xc0\x80\"", 1}, {"\"\xc1\xbf\"", 1}, {"\"\xe0\x80\x80\"", 1}, {"\"\xe0\x9f\xbf\"", 1}, {"\"\xf0\x80\x80\x80\"", 1}, {"\"\xf0\x8f\xbf\xbf\"", 1}, // over-long forms
		{"\"\xf4\x90\x80\x80\"", 1}, {"\"\xf5\x80\x80\x80\"", 1}, {"\"\xef\xbf\"", 1}, {"\"\ufffd\xef\xbf\"", 4}, {"\"\xef\xbf\xef\xbf\xbd\"", 1},
		{"\"\\\x80\"", 2}, {"\"\\x\x80\"", 3}, {"\"\\x4\xc3\xa9\"", 4},
	} {
		wantFault(t, c.line, c.at, api.ErrToken)
		wantFault(t, `"€" `+c.line, c.at+6, api.ErrToken)
	}
}

// Each byte in a Text as it is.
func TestTextOfEachByte(t *testing.T) {
	for b := range 256 {
		c := string([]byte{byte(b)})
		line := `"a` + c + `"`
		switch {
		case b == '"', b == '\\':
			wantFault(t, line, 4, api.ErrToken)
		case b >= 0x20 && b <= 0x7e:
			wantTokens(t, line, text(0, "a"+c))
		default:
			wantFault(t, line, 2, api.ErrToken)
		}
	}
}

// Right UTF-8 is what the library holds to be so: of two bytes all of them, of three and four those with bytes at the edges of what can follow.
func TestRightCharacters(t *testing.T) {
	edges := []byte{0x00, 0x22, 0x41, 0x7f, 0x80, 0x8f, 0x90, 0x9f, 0xa0, 0xbf, 0xc0, 0xc2, 0xe0, 0xef, 0xff}
	try := func(c string) {
		line := "\"" + c + "\""
		switch _, size := utf8.DecodeRuneInString(c); size {
		case 1:
			wantFault(t, line, 1, api.ErrToken)
		case len(c):
			wantTokens(t, line, text(0, c))
		}
	}
	for first := 0x80; first < 256; first++ {
		for second := range 256 {
			try(string([]byte{byte(first), byte(second)}))
		}
		for _, second := range edges {
			for _, third := range edges {
				try(string([]byte{byte(first), second, third}))
				for _, fourth := range edges {
					try(string([]byte{byte(first), second, third, fourth}))
				}
			}
		}
	}
	for c := rune(0x80); c <= utf8.MaxRune; c += 97 {
		if utf8.ValidRune(c) {
			wantTokens(t, `"`+string(c)+`"`, text(0, string(c)))
		}
	}
}
