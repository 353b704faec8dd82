package automata_test

import (
	"math/rand"
	"slices"
	"strings"
	"testing"

	"orrery/api"
	"orrery/automata"
)

func wantCheck(t *testing.T, pattern string, at int, want api.Errno) {
	t.Helper()
	got, e := automata.Check(pattern)
	if got != at || e != want {
		t.Errorf("Check(%q): %d, %v, not %d, %v", pattern, got, e, at, want)
	}
}

// F12.2: patterns.
func TestCheckOfPatterns(t *testing.T) {
	for _, pattern := range []string{
		"", "|", "||", "a|", "|a", "a||b", "()", "(|)", "()()", "(()|)", "()*", "(|)+?", "a", "abc", "a*", "a**", "a*+?", "a?+*b", "(a)*", "(a|b)*abb",
		"a(b|c)*[^x-z]\\x41", ".", "..", ".*", "^", "$", "a^b$", "-", "a-z", "{", "}", "a{2}", "/", ",", "\n", "\x00", "\xff", "\xc3\xa9", " ", "\"'`",
		"[a]", "[^a]", "[ab]", "[a-z]", "[a-a]", "[a-zA-Z0-9_]", "[^^]", "[a^]", "[ab^c]", "[^a^]", "[^^-z]", "[a^-z]", "[^\\^]", "[[]", "[.]", "[(]", "[)]", "[|]", "[*]", "[+?]", "[.-a]", "[!-[]", "[\x00-\xff]", "[\x80-\xff]", "[\n]",
		`\n`, `\t`, `\r`, `\x00`, `\xff`, `\xFF`, `\xaF`, `\x1ag`, `\d`, `\w`, `\s`, `\_`, `\-`, `\]`, `\[`, `\\`, `\*`, `\ `, "\\\n", "\\\x00", "\\\x80", "\\\xff",
		`[\n]`, `[\n-\r]`, `[\t-\x0d]`, `[\x00-\xff]`, `[^\x00-\xff]`, `[\d]`, `[\w\s]`, `[^\d]`, `[a\d]`, `[\da]`, `[a-c\d]`, `[\da-c]`, `[\]]`, `[\\]`, `[\-]`, `[a\-z]`, `[\--a]`, `[+-\-]`, `[\x61-z]`, `[a-\x7a]`, `[\[-\]]`, `[!-\\]`, `[\^]`, `[\^-a]`, `[a-bc-d]`,
	} {
		wantCheck(t, pattern, 0, api.OK)
	}
}

// F12.2: the place of the first byte that can not stand there.
func TestCheckOfWrongPatterns(t *testing.T) {
	for _, z := range []struct {
		pattern string
		at      int
	}{
		{"*", 0}, {"+", 0}, {"?", 0}, {"|*", 1}, {"a|+", 2}, {"(*", 1}, {"(?)", 1}, {"(|*)", 2}, {"ab(c|*)", 5},
		{")", 0}, {"a)", 1}, {"a*)", 2}, {"|)", 1}, {"())", 2}, {"(a))b", 3}, {"]", 0}, {"a]", 1}, {"[a]]", 3}, {"(]", 1}, {"a|]", 2},
		{"(", 1}, {"a(b", 3}, {"((a)", 4}, {"(a|", 3}, {"(()", 3}, {"a(", 2}, {"(\\)", 3}, {"([)]", 4},
		{"[", 1}, {"[a", 2}, {"[^", 2}, {"[^a", 3}, {"[a-", 3}, {"[a-b", 4}, {"[\\]", 3}, {"[a\\", 3}, {"a[", 2}, {"[(", 2}, {"(a[b)", 5},
		{"[]", 1}, {"[]a]", 1}, {"[^]", 2}, {"[^]a]", 2}, {"[-]", 1}, {"[-a]", 1}, {"[a-]", 3}, {"[^-a]", 2}, {"[^-]", 2}, {"[ab-]", 4}, {"[a--]", 3}, {"[a-b-]", 4}, {"[a-b-c]", 4}, {"[--a]", 1}, {"[a-b-", 4}, {"[-", 1}, {"[a--", 3}, {"[\\---]", 4},
		{"[b-a]", 3}, {"[b-a", 3}, {"[xb-a]", 4}, {"[^b-a]", 4}, {"[\\x62-a]", 6}, {"[b-\\x61]", 3}, {"[b-\\x61", 3}, {"[b-\\n]", 3}, {"[b-\\-]", 3}, {"[\xff-\xfe]", 3}, {"[\x01-\x00]", 3}, {"a[c-ba-b]", 4}, {"[a-bd-c]", 6}, {"[a-^]", 3},
		{"[a-\\d]", 3}, {"[a-\\w]", 3}, {"[\x00-\\s]", 3}, {"[a-\\d", 3}, {"[0-\\d]", 3}, {"[\\n-\\w]", 4}, {"[\\d-a]", 3}, {"[\\w-z]", 3}, {"[\\s-\\xff]", 3}, {"[\\d-\\d]", 3}, {"[\\d-", 3}, {"[\\d-]", 3}, {"[a\\d-z]", 4},
		{"\\", 1}, {"a\\", 2}, {"\\x", 2}, {"\\x4", 3}, {"\\xg0", 2}, {"\\x0g", 3}, {"\\xG0", 2}, {"\\x0`", 3}, {"\\x0@", 3}, {"\\x:0", 2}, {"\\x/0", 2}, {"\\x4(", 3}, {"\\x)", 2}, {"\\x\x00\x00", 2}, {"\\x 1", 2},
		{"[\\x", 3}, {"[\\x4", 4}, {"[\\x4]", 4}, {"[\\xx]", 3}, {"[a-\\x", 5}, {"[a-\\x7", 6}, {"[b-\\x6", 6}, {"[b-\\x6]", 6}, {"[a-\\q]", 4}, {"[z-\\q]", 4}, {"[\\q]", 2}, {"[a-\\", 4},
		{"\\q", 1}, {"\\N", 1}, {"\\D", 1}, {"\\W", 1}, {"\\S", 1}, {"\\X41", 1}, {"\\0", 1}, {"\\9", 1}, {"\\a", 1}, {"\\b", 1}, {"\\z", 1}, {"ab\\c)", 3}, {"\\q*)", 1},
	} {
		wantCheck(t, z.pattern, z.at, api.ErrPattern)
	}
}

// F12.2: every byte behind a `\`, by itself and in brackets, and what it stands for.
func TestEscapes(t *testing.T) {
	meant := map[byte]string{'n': "\n", 't': "\t", 'r': "\r", 'd': "0123456789", 's': "\t\n\r ", 'w': "0123456789ABCDEFGHIJKLMNOPQRSTUVWXYZ_abcdefghijklmnopqrstuvwxyz"}
	for i := range 256 {
		b := byte(i)
		escape := `\` + string([]byte{b})
		members, known := meant[b]
		switch {
		case known:
		case b == 'x':
			wantCheck(t, escape, 2, api.ErrPattern)
			continue
		case b >= '0' && b <= '9' || b >= 'A' && b <= 'Z' || b >= 'a' && b <= 'z':
			wantCheck(t, escape, 1, api.ErrPattern)
			wantCheck(t, "["+escape+"]", 2, api.ErrPattern)
			wantCheck(t, "[\x00-"+escape+"]", 4, api.ErrPattern)
			continue
		default:
			members = string([]byte{b})
		}
		wantBytesOf(t, escape, members)
		wantBytesOf(t, "["+escape+"]", members)
		wantBytesOf(t, "[^"+escape+"]", allBut(members))
	}
}

// wantBytesOf: the pattern has just these texts of one byte, and none of none or two.
func wantBytesOf(t *testing.T, pattern, members string) {
	t.Helper()
	a := built(t, pattern)
	var got []byte
	for b := range 256 {
		if automata.Match(a, []byte{byte(b)}) == 0 {
			got = append(got, byte(b))
		}
	}
	if string(got) != members {
		t.Errorf("%q has the bytes %q, not %q", pattern, got, members)
	}
	none, _ := automata.Count(a, 0)
	two, _ := automata.Count(a, 2)
	if none != 0 || two != 0 {
		t.Errorf("%q has %d texts of no byte, %d of two", pattern, none, two)
	}
}

// F12.2: every byte by its two digits, large and small ones.
func TestHexadecimalEscapes(t *testing.T) {
	for b := range 256 {
		for _, digits := range []string{"0123456789abcdef", "0123456789ABCDEF"} {
			pattern := `\x` + digits[b>>4:b>>4+1] + digits[b&15:b&15+1]
			wantBytesOf(t, pattern, string([]byte{byte(b)}))
		}
		if strings.IndexByte("0123456789abcdefABCDEF", byte(b)) < 0 {
			wantCheck(t, `\x`+string([]byte{byte(b)})+"0", 2, api.ErrPattern)
			wantCheck(t, `\x0`+string([]byte{byte(b)}), 3, api.ErrPattern)
		}
	}
}

// F12.1 (Words): every byte as an atom and as an item.
func TestEveryByteByItself(t *testing.T) {
	for i := range 256 {
		text := string([]byte{byte(i)})
		switch text {
		case ")", "]", "*", "+", "?":
			wantCheck(t, text, 0, api.ErrPattern)
		case "(", "[", `\`:
			wantCheck(t, text, 1, api.ErrPattern)
		case "|":
			wantCheck(t, text, 0, api.OK)
		case ".":
			wantBytesOf(t, text, allBut("\n"))
		default:
			wantBytesOf(t, text, text)
		}
		switch text {
		case "]", "-":
			wantCheck(t, "["+text+"]", 1, api.ErrPattern)
			wantCheck(t, "[^"+text+"]", 2, api.ErrPattern)
		case `\`:
			wantCheck(t, `[\]`, 3, api.ErrPattern)
		case "^":
			wantCheck(t, "[^]", 2, api.ErrPattern)
			wantBytesOf(t, "[^^]", allBut("^"))
			wantBytesOf(t, "[a^]", "^a")
		default:
			wantBytesOf(t, "["+text+"]", text)
			wantBytesOf(t, "[^"+text+"]", allBut(text))
			wantBytesOf(t, "["+text+"-"+text+"]", text)
		}
	}
}

// F12.1 (Words): all from the one to the other, and the place of an end that is below.
func TestItemsFromOneToAnother(t *testing.T) {
	hex := func(b int) string {
		const digits = "0123456789abcdef"
		return `\x` + digits[b>>4:b>>4+1] + digits[b&15:b&15+1]
	}
	r := rand.New(rand.NewSource(1))
	for low := range 256 {
		for _, high := range []int{0, low - 1, low, low + 1, 255, r.Intn(256)} {
			if high < 0 || high > 255 {
				continue
			}
			pattern := "[" + hex(low) + "-" + hex(high) + "]"
			if high < low {
				wantCheck(t, pattern, 6, api.ErrPattern)
				continue
			}
			var members []byte
			for b := low; b <= high; b++ {
				members = append(members, byte(b))
			}
			wantBytesOf(t, pattern, string(members))
			wantBytesOf(t, "[^"+pattern[1:], allBut(string(members)))
		}
	}
	wantBytesOf(t, "[a-cx\\d]", "0123456789abcx")
	wantBytesOf(t, "[+-\\-]", "+,-")
	wantBytesOf(t, "[\\--0]", "-./0")
	wantBytesOf(t, "[^^-`]", allBut("^_`"))
	wantBytesOf(t, "[[-\\]]", `[\]`)
}

// F12.2: MaxPattern bytes, and one more.
func TestLongPatterns(t *testing.T) {
	wantCheck(t, strings.Repeat("a", api.MaxPattern), 0, api.OK)
	wantCheck(t, strings.Repeat("a", api.MaxPattern+1), 0, api.ErrBig)
	wantCheck(t, strings.Repeat("|", api.MaxPattern), 0, api.OK)
	wantCheck(t, "a"+strings.Repeat("*", api.MaxPattern-1), 0, api.OK)
	wantCheck(t, strings.Repeat("a", api.MaxPattern-1)+")", api.MaxPattern-1, api.ErrPattern)
	wantCheck(t, strings.Repeat("a", api.MaxPattern-1)+"(", api.MaxPattern, api.ErrPattern)
	wantCheck(t, strings.Repeat("*", api.MaxPattern+1), 0, api.ErrBig)
	wantCheck(t, strings.Repeat("(", api.MaxPattern+1), 0, api.ErrBig)
	wantCheck(t, strings.Repeat("a", api.MaxText), 0, api.ErrBig)
	wantCheck(t, "["+strings.Repeat("a", api.MaxPattern-2)+"]", 0, api.OK)
}

// F12.2: parentheses within MaxDepth others, and within one more, which is told at its place, if nothing comes first.
func TestDeepPatterns(t *testing.T) {
	open, closed := func(n int) string { return strings.Repeat("(", n) }, func(n int) string { return strings.Repeat(")", n) }
	const most = api.MaxDepth + 1 // the innermost one is within MaxDepth others
	wantCheck(t, open(most)+closed(most), 0, api.OK)
	wantCheck(t, open(most)+closed(most)+open(60)+"|"+closed(60), 0, api.OK)
	wantCheck(t, open(most-1)+"()()(a)*"+closed(most-1), 0, api.OK)
	wantCheck(t, open(most+1)+closed(most+1), most, api.ErrBig)
	wantCheck(t, open(most+1), most, api.ErrBig)
	wantCheck(t, open(most+1)+"*", most, api.ErrBig)
	wantCheck(t, open(most+40)+closed(most+40), most, api.ErrBig)
	wantCheck(t, open(most)+"a()", most+1, api.ErrBig)
	wantCheck(t, open(most), most, api.ErrPattern)
	wantCheck(t, open(most)+"[(]"+closed(most), 0, api.OK)
	wantCheck(t, open(most)+`\(`+closed(most), 0, api.OK)
	wantCheck(t, open(most)+"*(", most, api.ErrPattern)
	wantCheck(t, "*"+open(most+1), 0, api.ErrPattern)
	wantCheck(t, open(most)+closed(most)+")"+open(most+1), 2*most, api.ErrPattern)
	wantCheck(t, strings.Repeat("()", 60)+open(most+1), 120+most, api.ErrBig)
	wantCheck(t, strings.Repeat("a|", 60)+open(most)+closed(most), 0, api.OK)
	wantCheck(t, strings.Repeat("()", 60)+open(most)+closed(most), 0, api.OK)
}

// checked: F12.2 once more, without a call within a call: what is open is counted, and each byte is asked whether it can stand there.
func checked(s string) (int, api.Errno) {
	if len(s) > api.MaxPattern {
		return 0, api.ErrBig
	}
	open, behindAtom := 0, false
	for i := 0; i < len(s); {
		width := 1
		switch c := s[i]; c {
		case '(':
			if open > api.MaxDepth {
				return i, api.ErrBig
			}
			open++
		case ')':
			if open == 0 {
				return i, api.ErrPattern
			}
			open--
		case '*', '+', '?':
			if !behindAtom {
				return i, api.ErrPattern
			}
		case ']':
			return i, api.ErrPattern
		case '\\', '[':
			read := checkedEscape
			if c == '[' {
				read = checkedItems
			}
			n, fault := read(s[i:])
			if fault >= 0 {
				return i + fault, api.ErrPattern
			}
			width = n
		}
		behindAtom = s[i] != '(' && s[i] != '|'
		i += width
	}
	if open > 0 {
		return len(s), api.ErrPattern
	}
	return 0, api.OK
}

// checkedEscape: how many bytes the escape at the beginning has, or where its fault is.
func checkedEscape(s string) (width, fault int) {
	isIn := func(i int, those string) bool { return i < len(s) && strings.IndexByte(those, s[i]) >= 0 }
	const hex = "0123456789abcdefABCDEF"
	switch {
	case isIn(1, "ntrdws"):
		return 2, -1
	case !isIn(1, "x"):
		if len(s) == 1 || isIn(1, "0123456789abcdefghijklmnopqrstuvwxyzABCDEFGHIJKLMNOPQRSTUVWXYZ") {
			return 0, 1
		}
		return 2, -1
	case !isIn(2, hex):
		return 0, 2
	case !isIn(3, hex):
		return 0, 3
	}
	return 4, -1
}

// checkedItems: the same of brackets. What each member is worth is told by two numbers, its least and its greatest byte.
func checkedItems(s string) (width, fault int) {
	i := 1
	if strings.HasPrefix(s, "[^") {
		i = 2
	}
	for items := 0; ; items++ {
		if items > 0 && i < len(s) && s[i] == ']' {
			return i + 1, -1
		}
		low, high, n, fault := checkedMember(s[i:])
		if fault >= 0 {
			return 0, i + fault
		}
		i += n
		if i == len(s) || s[i] != '-' {
			continue
		}
		if low != high {
			return 0, i
		}
		i++
		least, greatest, n, fault := checkedMember(s[i:])
		if fault >= 0 {
			return 0, i + fault
		}
		if least != greatest || least < low {
			return 0, i
		}
		i += n
	}
}

func checkedMember(s string) (least, greatest byte, width, fault int) {
	if s == "" || s[0] == ']' || s[0] == '-' {
		return 0, 0, 0, 0
	}
	if s[0] != '\\' {
		return s[0], s[0], 1, -1
	}
	width, fault = checkedEscape(s)
	if fault >= 0 {
		return 0, 0, 0, fault
	}
	values := map[byte][2]byte{'n': {10, 10}, 't': {9, 9}, 'r': {13, 13}, 'd': {'0', '9'}, 'w': {'0', 'z'}, 's': {9, ' '}}
	if v, known := values[s[1]]; known {
		return v[0], v[1], width, -1
	}
	if s[1] != 'x' {
		return s[1], s[1], width, -1
	}
	value := byte(strings.IndexByte("0123456789abcdef", s[2]|32)<<4 + strings.IndexByte("0123456789abcdef", s[3]|32)) // a digit has that bit already
	return value, value, width, -1
}

// texts: all of n of these bytes.
func texts(bytes string, n int, each func(text string)) {
	if n == 0 {
		each("")
		return
	}
	texts(bytes, n-1, func(text string) {
		for i := range len(bytes) {
			each(text + bytes[i:i+1])
		}
	})
}

const patternBytes = `a~()[]^-\x7d*|`

// F12.2: all short texts of the bytes that matter.
func TestCheckOfAllShortTexts(t *testing.T) {
	right := 0
	for n := range 6 {
		texts(patternBytes, n, func(text string) {
			at, want := checked(text)
			if want == api.OK {
				right++
			}
			if got, e := automata.Check(text); got != at || e != want {
				t.Errorf("Check(%q): %d, %v, not %d, %v", text, got, e, at, want)
			}
		})
	}
	if right < 10000 {
		t.Errorf("%d of the texts are patterns: that tells little", right)
	}
}

// F12.2: `]`, `\` and `*`, and others, put in at every place of a pattern, and in place of each of its bytes, and each beginning of it.
func TestMarksAtEveryPlace(t *testing.T) {
	for _, pattern := range []string{"a(b|c)*[^x-z]\\x41", "[^\\d\\]a-\\x7a^]+(|(a\\\\)?)*", "((a|b)*abb|[\\w.-\\/])?", "[a-zA-Z_][\\w]*|\\x30|.*\\)"} {
		wantCheck(t, pattern, 0, api.OK)
		for i := range len(pattern) + 1 {
			for _, text := range append(strings.Split("]\\*()[-^|+?.xdaz0\n", ""), "", "\x00", "\xff", "[]", "\\x", "a-") {
				for _, whole := range []string{pattern[:i] + text + pattern[i:], pattern[:i] + text + pattern[min(i+1, len(pattern)):], pattern[:i] + text} {
					at, want := checked(whole)
					wantCheck(t, whole, at, want)
				}
			}
		}
	}
}

// F12.2: longer texts by chance.
func TestCheckOfLongerTexts(t *testing.T) {
	r := rand.New(rand.NewSource(2))
	for range 100000 {
		text := make([]byte, r.Intn(40))
		for i := range text {
			text[i] = patternBytes[r.Intn(len(patternBytes))]
			if r.Intn(9) == 0 {
				text[i] = byte(r.Intn(256))
			}
		}
		at, want := checked(string(text))
		wantCheck(t, string(text), at, want)
	}
}

// The place of a fault parts what can still become a pattern from what can not.
func TestTheFirstByteThatCanNotStandThere(t *testing.T) {
	canBecome := func(text string) bool {
		for closing := range strings.Count(text, "(") + 1 {
			for _, rest := range []string{"", "~", "]", "~]", "7f", "7f]", "f", "f]"} {
				if _, e := automata.Check(text + rest + strings.Repeat(")", closing)); e == api.OK {
					return true
				}
			}
		}
		return false
	}
	r := rand.New(rand.NewSource(3))
	for range 30000 {
		text := ""
		for range 1 + r.Intn(9) {
			text += string(patternBytes[r.Intn(len(patternBytes))])
		}
		at, e := automata.Check(text)
		if e == api.OK {
			continue
		}
		if !canBecome(text[:at]) {
			t.Errorf("%q: a fault stands ahead of %d", text, at)
		}
		if at < len(text) && canBecome(text[:min(at+4, len(text))]) { // an end that is below has up to four bytes
			t.Errorf("%q: no fault stands at %d", text, at)
		}
	}
}

// P1201 and F12.2 do not hang on what was asked before.
func TestCheckTwice(t *testing.T) {
	list := []string{"a(b", "[b-a]", "", "(((", "a*", "\\x4"}
	var first []int
	for _, pattern := range slices.Concat(list, list) {
		at, e := automata.Check(pattern)
		first = append(first, at, int(e))
	}
	if !slices.Equal(first[:len(first)/2], first[len(first)/2:]) {
		t.Errorf("Check tells something else the second time: %v", first)
	}
}
