package lexer_test

import (
	"math/big"
	"math/rand"
	"slices"
	"strings"
	"testing"
	"unicode/utf8"

	"orrery/api"
	"orrery/automata"
	"orrery/lexer"
)

// What a pattern's number is, beside the kinds of tokens.
const (
	blankTag  = 0
	remarkTag = 6
)

// patterns: the words of the chapter as regular expressions; that of a kind of tokens has the kind as its number.
var patterns = []string{
	`[ \t\r]`,
	`[A-Za-z_.][A-Za-z0-9_.]*`,
	`$[0-9A-Fa-f]+|%[01]+|@[0-7]+|[0-9]+`,
	`'([\x20-\x26\x28-\x5b\x5d-\x7e]|\\[nrt0\\'"]|\\x[0-9A-Fa-f][0-9A-Fa-f])'`,
	`"([\x20-\x21\x23-\x5b\x5d-\x7e]|\\[nrt0\\'"]|\\x[0-9A-Fa-f][0-9A-Fa-f]|` + characters + `)*"`,
	`<<|>>|[,#():=+\-*/&|^~<>!]`,
	`;[\x00-\xff]*`,
}

// characters: of right UTF-8, of more than one byte.
const characters = "[\xc2-\xdf]" + tail +
	"|\xe0[\xa0-\xbf]" + tail + "|[\xe1-\xec\xee\xef]" + tail + tail + "|\xed[\x80-\x9f]" + tail +
	"|\xf0[\x90-\xbf]" + tail + tail + "|[\xf1-\xf3]" + tail + tail + tail + "|\xf4[\x80-\x8f]" + tail + tail

const tail = "[\x80-\xbf]"

func tokenAutomata(t testing.TB) (whole, least automata.Automaton) {
	t.Helper()
	whole, which, at, e := automata.Build(patterns)
	if e != api.OK {
		t.Fatalf("pattern %d fails at %d: %v", which, at, e)
	}
	if least, e = automata.Least(whole); e != api.OK {
		t.Fatal(e)
	}
	return whole, least
}

// longest: the tag and the length of the longest match, and how many bytes can be gone by in a least automaton, in which all states lead to a match.
func longest(a automata.Automaton, rest string) (tag, n, gone int) {
	tag = -1
	for state := 0; gone < len(rest); {
		if state = a.Next[state][a.Class[rest[gone]]]; state < 0 {
			break
		}
		gone++
		if a.Accept[state] >= 0 {
			tag, n = a.Accept[state], gone
		}
	}
	return tag, n, gone
}

// firstBroken: by the library.
func firstBroken(s string) int {
	for at := 0; at < len(s); {
		c, size := utf8.DecodeRuneInString(s[at:])
		if c == utf8.RuneError && size == 1 {
			return at
		}
		at += size
	}
	return -1
}

// meanings: each escape, and behind it what it means.
var meanings = func() *strings.Replacer {
	pairs := []string{`\n`, "\n", `\r`, "\r", `\t`, "\t", `\0`, "\x00", `\\`, `\`, `\'`, `'`, `\"`, `"`}
	const low, high = "0123456789abcdef", "0123456789ABCDEF"
	for b := range 256 {
		means := string([]byte{byte(b)})
		for _, first := range []byte{low[b/16], high[b/16]} {
			for _, second := range []byte{low[b%16], high[b%16]} {
				pairs = append(pairs, `\x`+string([]byte{first, second}), means)
			}
		}
	}
	return strings.NewReplacer(pairs...)
}()

// tokenOf: what a match is; false of a Number that is too great.
func tokenOf(kind, at int, told string) (lexer.Token, bool) {
	token := lexer.Token{Kind: kind, Text: told, At: at}
	switch kind {
	case lexer.Number:
		base := map[byte]int{'$': 16, '%': 2, '@': 8}[told[0]]
		digits := strings.TrimLeft(told, "$%@")
		if base == 0 {
			base = 10
		}
		value, _ := new(big.Int).SetString(digits, base)
		if value.BitLen() > 32 {
			return lexer.Token{}, false
		}
		token.Value = int(value.Int64())
	case lexer.Char:
		token.Value = int(meanings.Replace(told[1 : len(told)-1])[0])
	case lexer.Text:
		token.Text = meanings.Replace(told[1 : len(told)-1])
	}
	return token, true
}

// lexed: Lex, by an automaton.
func lexed(a automata.Automaton, line string) (list tokens, at int, e api.Errno) {
	if len(line) > 255 {
		return nil, 255, api.ErrBig
	}
	for at < len(line) {
		tag, n, gone := longest(a, line[at:])
		if tag < 0 {
			place := at + gone
			if b := firstBroken(line[at:]); b >= 0 {
				place = min(place, at+b)
			}
			return nil, place, api.ErrToken
		}
		if tag != blankTag && tag != remarkTag {
			token, ok := tokenOf(tag, at, line[at:at+n])
			if !ok {
				return nil, at, api.ErrRange
			}
			list = append(list, token)
		}
		at += n
	}
	return list, 0, api.OK
}

func againstAutomaton(t *testing.T, a automata.Automaton, line string) {
	t.Helper()
	list, at, e := lexer.Lex(line)
	want, wantAt, wantE := lexed(a, line)
	if !slices.Equal(list, want) || at != wantAt || e != wantE {
		t.Fatalf("Lex(%q) = %+v, %d, %v, not %+v, %d, %v", line, list, at, e, want, wantAt, wantE)
	}
}

// P4: the least automaton of the patterns has the same tokens as the whole one.
func TestLeastAutomatonHasTheTokens(t *testing.T) {
	whole, least := tokenAutomata(t)
	if witness, differ, e := automata.Differ(whole, least); differ || e != api.OK {
		t.Errorf("they differ at %q, %v", witness, e)
	}
}

// P4, P1501: tokens are longest matches, and a fault stands where no match can go on. All short lines of bytes that stand for their kinds.
func TestAllShortLines(t *testing.T) {
	_, least := tokenAutomata(t)
	for _, c := range []struct {
		bytes string
		most  int
	}{
		{"aFg_.0278 \t;$%@'\"\\nx<>,-\n\x00\x1f\x7f?\xc3\xa9\xff", 3},
		{"aF028 ;$%@<>'\"\\x", 4},
		{"'\"\\x4n;\xc3\xa9", 6},
		{"$%@0129fg", 5},
		{"<>=. a", 6},
		{"\"\\\xe0\xe2\xed\xef\xf0\xf4\x80\x9f\xa0\xbf\xbda", 4},
	} {
		line := make([]byte, c.most)
		var fill func(n int)
		fill = func(n int) {
			againstAutomaton(t, least, string(line[:n]))
			if n == c.most {
				return
			}
			for i := range len(c.bytes) {
				line[n] = c.bytes[i]
				fill(n + 1)
			}
		}
		fill(0)
	}
	for first := range 256 {
		for second := range 256 {
			againstAutomaton(t, least, string([]byte{byte(first), byte(second)}))
			againstAutomaton(t, least, "\""+string([]byte{byte(first), byte(second)})+"\"")
		}
	}
}

// pieces: of which long lines are put together.
var pieces = []string{
	" ", "\t", "\r", "loop", ".byte", "_a9", "x", "$", "$0F", "$ffffffff", "$100000000", "%101", "%", "@17", "@8", "42", "4294967295", "4294967296",
	"'a'", `'\n'`, `'\x4f'`, `'"'`, "'", `""`, `"a;b"`, `"é€𝄞"`, `"\xFf\0\'"`, "\"\ufffd\"", `"`, `\`, `\x`, "\"\xc3\"", "\xff", "é", "<<", ">>", "<", ">", ",", "#", "(", ")", ":", "=", "+", "-", "*", "/", "&", "|", "^", "~", "!", ";", "?",
}

func randomLine(r *rand.Rand) string {
	var b strings.Builder
	for range r.Intn(r.Intn(200) + 1) {
		piece := pieces[r.Intn(len(pieces))]
		if strings.ContainsAny(piece, "?;\\é") || len(piece) == 1 && strings.ContainsAny(piece, "$%'\"\xff") {
			if r.Intn(12) > 0 { // so that most lines go on for a while
				continue
			}
		}
		b.WriteString(piece)
		if r.Intn(30) == 0 {
			b.WriteByte(byte(r.Intn(256)))
		}
	}
	return b.String()
}

func TestLongLines(t *testing.T) {
	_, least := tokenAutomata(t)
	r := rand.New(rand.NewSource(15))
	found := map[api.Errno]int{}
	for range 60000 {
		line := randomLine(r)
		againstAutomaton(t, least, line)
		_, _, e := lexer.Lex(line)
		found[e]++
	}
	for _, e := range []api.Errno{api.OK, api.ErrToken, api.ErrRange, api.ErrBig} {
		if found[e] < 100 {
			t.Errorf("only %d lines with %v", found[e], e)
		}
	}
	for range 20000 {
		line := make([]byte, r.Intn(20))
		for i := range line {
			line[i] = byte(r.Intn(256))
		}
		againstAutomaton(t, least, string(line))
		againstAutomaton(t, least, "\""+string(line)+"\"")
	}
}
