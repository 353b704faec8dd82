package automata_test

import (
	"math/rand"
	"slices"
	"strings"
	"testing"

	"orrery/api"
	"orrery/automata"
)

// F12.3: automata, number by number.
func TestBuildOfFewPatterns(t *testing.T) {
	class := func(first byte, more ...byte) []int { // the class of all bytes, but that these have another
		list := make([]int, 256)
		for i, b := range append([]byte{first}, more...) {
			list[b] = i + 1
		}
		return list
	}
	for _, z := range []struct {
		patterns []string
		want     automata.Automaton
	}{
		{nil, automata.Automaton{Class: make([]int, 256), Next: [][]int{{-1}}, Accept: []int{-1}}},
		{[]string{""}, automata.Automaton{Class: make([]int, 256), Next: [][]int{{-1}}, Accept: []int{0}}},
		{[]string{"|"}, automata.Automaton{Class: make([]int, 256), Next: [][]int{{-1}}, Accept: []int{0}}},
		{[]string{"()*"}, automata.Automaton{Class: make([]int, 256), Next: [][]int{{-1}}, Accept: []int{0}}},
		{[]string{"", ""}, automata.Automaton{Class: make([]int, 256), Next: [][]int{{-1}}, Accept: []int{0}}},
		{[]string{"[^\\x00-\\xff]"}, automata.Automaton{Class: make([]int, 256), Next: [][]int{{-1}}, Accept: []int{-1}}},
		{[]string{"[^\\x00-\\xff]*", "|a"}, automata.Automaton{Class: class('a'), Next: [][]int{{-1, 1}, {-1, -1}}, Accept: []int{0, 1}}},
		{[]string{"a"}, automata.Automaton{Class: class('a'), Next: [][]int{{-1, 1}, {-1, -1}}, Accept: []int{-1, 0}}},
		{[]string{"a", "|b*"}, automata.Automaton{Class: class('a', 'b'), Next: [][]int{{-1, 1, 2}, {-1, -1, -1}, {-1, -1, 2}}, Accept: []int{1, 0, 1}}},
		{[]string{"b", "a"}, automata.Automaton{Class: class('a', 'b'), Next: [][]int{{-1, 1, 2}, {-1, -1, -1}, {-1, -1, -1}}, Accept: []int{-1, 1, 0}}},
		{[]string{"a*"}, automata.Automaton{Class: class('a'), Next: [][]int{{-1, 1}, {-1, 1}}, Accept: []int{0, 0}}}, // the start is a state of its own
		{[]string{"a|a"}, automata.Automaton{Class: class('a'), Next: [][]int{{-1, 1}, {-1, -1}}, Accept: []int{-1, 0}}},
		{[]string{"a[^\\x00-\\xff]"}, automata.Automaton{Class: class('a'), Next: [][]int{{-1, 1}, {-1, -1}}, Accept: []int{-1, -1}}},
		{[]string{"(a|b)*abb"}, automata.Automaton{Class: class('a', 'b'), Next: [][]int{{-1, 1, 2}, {-1, 1, 3}, {-1, 1, 2}, {-1, 1, 4}, {-1, 1, 2}}, Accept: []int{-1, -1, -1, -1, 0}}},
		{[]string{".."}, automata.Automaton{Class: class('\n'), Next: [][]int{{1, -1}, {2, -1}, {-1, -1}}, Accept: []int{-1, -1, 0}}},
		{[]string{"[\\x00-\\xff]"}, automata.Automaton{Class: make([]int, 256), Next: [][]int{{1}, {-1}}, Accept: []int{-1, 0}}},
		{[]string{"\\x00"}, automata.Automaton{Class: append([]int{0}, slices.Repeat([]int{1}, 255)...), Next: [][]int{{1, -1}, {-1, -1}}, Accept: []int{-1, 0}}},
		{[]string{"[ab]", "[bc]"}, automata.Automaton{Class: class('a', 'b', 'c'), Next: [][]int{{-1, 1, 2, 3}, {-1, -1, -1, -1}, {-1, -1, -1, -1}, {-1, -1, -1, -1}}, Accept: []int{-1, 0, 0, 1}}},
	} {
		a := built(t, z.patterns...)
		wantSame(t, strings.Join(z.patterns, " , "), a, z.want)
		wantNumberedWell(t, strings.Join(z.patterns, " , "), a)
	}
}

// F12.3: bytes that go alike from every state are one class, though the patterns' sets tell them apart.
func TestClassesAreThoseOfTheStates(t *testing.T) {
	a := built(t, "[^\\x00-\\xff]a|b") // no state is come to by a
	if a.Class['a'] != a.Class['c'] || a.Class['b'] == a.Class['c'] || len(a.Next[0]) != 2 {
		t.Errorf("the classes of a, b, c are %d, %d, %d of %d", a.Class['a'], a.Class['b'], a.Class['c'], len(a.Next[0]))
	}
	a = built(t, "[a-c]([d-f]|[^\\x00-\\xff])", "[abd]") // a and b always go alike, and so do e and f
	wantNumberedWell(t, "[a-c]([d-f]|[^\\x00-\\xff]) , [abd]", a)
	if len(a.Next[0]) != 5 {
		t.Errorf("%d classes, not 5", len(a.Next[0]))
	}
}

// someTexts: all short ones of few bytes, and some longer ones.
func someTexts(r *rand.Rand) []string {
	var list []string
	for n := range 5 {
		texts("abc\n", n, func(text string) { list = append(list, text) })
	}
	const bytes = "aaabbbccc\n.-0\x00\xff_z"
	for range 100 {
		text := make([]byte, 1+r.Intn(12))
		for i := range text {
			text[i] = bytes[r.Intn(len(bytes))]
		}
		list = append(list, string(text))
	}
	return list
}

// F12.3 and P1202: patterns by chance, held against the automaton that a net tells, and texts against the shapes themselves.
func TestBuildOfManyPatterns(t *testing.T) {
	r := rand.New(rand.NewSource(4))
	all, texts := atoms(), someTexts(r)
	built, had := 0, 0
	for range 400 {
		var shapes []shape
		var patterns []string
		for range 1 + r.Intn(3) {
			s := someShape(r, all, r.Intn(5))
			if p := s.pattern(); len(p) <= api.MaxPattern {
				shapes, patterns = append(shapes, s), append(patterns, p)
			}
		}
		want := wantedBuild(shapes)
		a, which, at, e := automata.Build(patterns)
		if which != 0 || at != 0 || e != api.OK {
			t.Fatalf("Build(%q): %d, %d, %v", patterns, which, at, e)
		}
		built++
		wantSame(t, strings.Join(patterns, " , "), a, want)
		wantNumberedWell(t, strings.Join(patterns, " , "), a)
		for _, text := range texts {
			tag := slices.IndexFunc(shapes, func(s shape) bool { return s.hasText(text) })
			if tag >= 0 {
				had++
			}
			if got := automata.Match(a, []byte(text)); got != tag {
				t.Errorf("Build(%q): Match of %q is %d, not %d", patterns, text, got, tag)
			}
		}
	}
	if built < 300 || had < built*len(texts)/20 {
		t.Errorf("%d automata had %d texts: that tells little", built, had)
	}
}

// P1202: what binds how much, in texts that a person wrote down.
func TestTextsOfPatterns(t *testing.T) {
	for _, z := range []struct {
		pattern   string
		has, lack string // parted by blanks; a comma is the empty text
	}{
		{"ab|cd", "ab cd", ", a b abd acd abcd"},
		{"ab*", "a ab abb", ", b abab"},
		{"(ab)*", ", ab abab", "a aba abb"},
		{"a|b*", ", a b bb", "ab aa ba"},
		{"(a|b)*", ", a b ab ba bbab", "c abc"},
		{"a+", "a aa aaa", ", b ab"},
		{"a?", ", a", "aa b"},
		{"a?b", "b ab", ", a aab"},
		{"a+?", ", a aa", "b"},
		{"a?+", ", a aa", "b"},
		{"a**", ", a aa", "b"},
		{"(a+b?)+c", "ac abc aabac abaabc", "bc c abbc"},
		{"|a", ", a", "aa b"},
		{"a||b", ", a b", "ab"},
		{"(|a)b", "b ab", ", a aab"},
		{"()a()", "a", ", aa"},
		{"(a|)(b|)(c|)", ", a b c ab ac bc abc", "ba ca cb abcc"},
		{"a(b|c)*[^x-z]\\x41", "amA abcbwA abA aaA aAA abcA", "axA abzA a aA abcAB"},
		{"((a*)*)*b", "b ab aaab", ", a ba"},
		{"(a*b*)*", ", a b ba abba", "c"},
		{"(a|ab)(c|bcd)", "ac abc abcd abbcd", "abcbcd a ab"},
	} {
		a := built(t, z.pattern)
		for tag, texts := range map[int]string{0: z.has, -1: z.lack} {
			for text := range strings.FieldsSeq(texts) {
				if text == "," {
					text = ""
				}
				if got := automata.Match(a, []byte(text)); got != tag {
					t.Errorf("%s: Match of %q is %d, not %d", z.pattern, text, got, tag)
				}
			}
		}
	}
}

// P1202: `.` has each byte but 10, `[^..]` that one, too.
func TestDotAndTheEndOfALine(t *testing.T) {
	dot, not := built(t, "."), built(t, "[^a]")
	for b := range 256 {
		want := 0
		if b == 10 {
			want = -1
		}
		if got := automata.Match(dot, []byte{byte(b)}); got != want {
			t.Errorf(". has %d: %d, not %d", b, got, want)
		}
	}
	if automata.Match(not, []byte("\n")) != 0 || automata.Match(not, []byte("a")) != -1 {
		t.Error("[^a] has a, or not the end of a line")
	}
}

// F12.3, P1202: of patterns with the same texts the least number counts, wherever they stand.
func TestTheLeastNumberCounts(t *testing.T) {
	list := []string{"x", "ab*", "a", "a|b", "b", "", "|x", "[a-z]+"}
	for _, z := range []struct {
		text string
		want int
	}{{"x", 0}, {"a", 1}, {"ab", 1}, {"abb", 1}, {"b", 3}, {"", 5}, {"xx", 7}, {"q", 7}, {"A", -1}, {"ab1", -1}} {
		if got := automata.Match(built(t, list...), []byte(z.text)); got != z.want {
			t.Errorf("Match of %q is %d, not %d", z.text, got, z.want)
		}
	}
	many := slices.Repeat([]string{"b"}, api.MaxPatterns)
	for i := range many {
		for k := range many {
			many[k] = "b"
			if k >= i {
				many[k] = "a"
			}
		}
		a := built(t, many...)
		if got := automata.Match(a, []byte("a")); got != i {
			t.Errorf("from pattern %d on: %d", i, got)
		}
	}
}

func wantBuild(t *testing.T, patterns []string, which, at int, want api.Errno) {
	t.Helper()
	a, w, p, e := automata.Build(patterns)
	if w != which || p != at || e != want {
		t.Errorf("Build of %d patterns: %d, %d, %v, not %d, %d, %v", len(patterns), w, p, e, which, at, want)
	}
	if (want == api.OK) == isZero(a) {
		t.Errorf("Build of %d patterns: %v with %v", len(patterns), a, e)
	}
}

// F12.3: MaxPatterns patterns, one more, and none.
func TestHowManyPatterns(t *testing.T) {
	wantBuild(t, nil, 0, 0, api.OK)
	wantBuild(t, []string{}, 0, 0, api.OK)
	wantBuild(t, slices.Repeat([]string{"ab"}, api.MaxPatterns), 0, 0, api.OK)
	wantBuild(t, slices.Repeat([]string{"ab"}, api.MaxPatterns+1), 0, 0, api.ErrBig)
	wantBuild(t, slices.Repeat([]string{"("}, api.MaxPatterns+1), 0, 0, api.ErrBig)
	wantBuild(t, append(slices.Repeat([]string{""}, api.MaxPatterns-1), "a)"), api.MaxPatterns-1, 1, api.ErrPattern)
}

// F12.3: Check's error of the first pattern that has one.
func TestBuildOfWrongPatterns(t *testing.T) {
	deep := strings.Repeat("(", api.MaxDepth+2)
	for _, z := range []struct {
		patterns  []string
		which, at int
		want      api.Errno
	}{
		{[]string{"a", "(b"}, 1, 2, api.ErrPattern}, {[]string{"(b", "a"}, 0, 2, api.ErrPattern}, {[]string{"a", "b", "[z-a]", "*"}, 2, 3, api.ErrPattern},
		{[]string{"a", "*", deep}, 1, 0, api.ErrPattern}, {[]string{"a", deep, "*"}, 1, api.MaxDepth + 1, api.ErrBig},
		{[]string{"a", strings.Repeat("a", 257), "*"}, 1, 0, api.ErrBig}, {[]string{strings.Repeat("*", 257)}, 0, 0, api.ErrBig},
	} {
		wantBuild(t, z.patterns, z.which, z.at, z.want)
		at, e := automata.Check(z.patterns[z.which])
		if at != z.at || e != z.want {
			t.Errorf("Check(%q): %d, %v", z.patterns[z.which], at, e)
		}
	}
}

// F12.3: MaxPlaces places in all, and one more.
func TestHowManyPlaces(t *testing.T) {
	half := strings.Repeat("a", 256)
	wantBuild(t, []string{half, half}, 0, 0, api.OK)
	wantBuild(t, []string{half, half, "", "()", "(|)*"}, 0, 0, api.OK)
	wantBuild(t, []string{half, half, "a"}, 2, 0, api.ErrBig)
	wantBuild(t, []string{half, "", half, "", "."}, 4, 0, api.ErrBig)
	wantBuild(t, []string{half, "b", half}, 2, 0, api.ErrBig)
	wantBuild(t, []string{half, half, "[^\\x00-\\xff]"}, 2, 0, api.ErrBig)
	wantBuild(t, []string{half, half, "(a"}, 2, 2, api.ErrPattern) // Check's error goes ahead
	wantBuild(t, []string{half, half, "a", "("}, 2, 0, api.ErrBig) // but not that of a later one
	wantBuild(t, []string{half, half, "(", "a"}, 2, 1, api.ErrPattern)
	few := slices.Repeat([]string{"\\x61[a-c](.|\\w)()*(|)*\\d{}\\s"}, api.MaxPatterns) // eight places each
	wantBuild(t, few, 0, 0, api.OK)
	few[10] += "b"
	wantBuild(t, few, api.MaxPatterns-1, 0, api.ErrBig)
	few[20] = ""
	wantBuild(t, few, 0, 0, api.OK)
}

// All MaxPlaces places are told apart.
func TestEachPlaceCounts(t *testing.T) {
	letters := make([]string, api.MaxPatterns) // eight places each, and no two patterns have one text
	for i := range letters {
		for k := range 4 {
			if k > 0 {
				letters[i] += "|"
			}
			letters[i] += string([]byte{byte(0xc0 + i%32), byte(0x80 + 2*k + i/32)})
		}
	}
	a := built(t, letters...)
	for i := range letters {
		for k := range 4 {
			text := []byte{byte(0xc0 + i%32), byte(0x80 + 2*k + i/32)}
			if got := automata.Match(a, text); got != i {
				t.Errorf("Match of %q is %d, not %d", text, got, i)
			}
		}
	}
}

// F12.3: MaxStates states, and one more.
func TestHowManyStates(t *testing.T) {
	first := strings.Repeat("a", 256)
	a := built(t, first, strings.Repeat("b", 255))
	if len(a.Next) != api.MaxStates {
		t.Errorf("%d states", len(a.Next))
	}
	wantNumberedWell(t, "MaxStates states", a)
	if automata.Match(a, []byte(first)) != 0 || automata.Match(a, []byte(first[1:])) != -1 || automata.Match(a, []byte(strings.Repeat("b", 255))) != 1 {
		t.Error("MaxStates states: they have other texts")
	}
	wantBuild(t, []string{first, strings.Repeat("b", 256)}, 0, 0, api.ErrStates)
	wantBuild(t, []string{first, strings.Repeat("b", 256), "("}, 2, 1, api.ErrPattern) // the states are asked at the end
	wantBuild(t, []string{first, strings.Repeat("b", 256), "a"}, 2, 0, api.ErrBig)
	wantBuild(t, []string{"[ab]*a" + strings.Repeat("[ab]", 7)}, 0, 0, api.OK)
	wantBuild(t, []string{"[ab]*a" + strings.Repeat("[ab]", 8)}, 0, 0, api.ErrStates) // 512 sets, and the start
	wantBuild(t, []string{"[ab]*a" + strings.Repeat("[ab]", 50)}, 0, 0, api.ErrStates)
	if a := built(t, "[ab]*a"+strings.Repeat("[ab]", 7)); len(a.Next) != 257 {
		t.Errorf("%d states, not 257", len(a.Next))
	}
	if a := built(t, strings.Repeat("a?", 128)); len(a.Next) != 129 {
		t.Errorf("%d states, not 129", len(a.Next))
	}
}

// The largest patterns of each kind come to an end.
func TestGreatPatterns(t *testing.T) {
	wantBuild(t, []string{strings.Repeat("(", 65) + "a" + strings.Repeat(")*", 65)}, 0, 0, api.OK)
	wantBuild(t, []string{strings.Repeat("(a*", 50) + strings.Repeat(")*", 50)}, 0, 0, api.OK)
	wantBuild(t, []string{strings.Repeat("a*", 128), strings.Repeat("|", 256), "a" + strings.Repeat("*", 255), strings.Repeat("()", 128)}, 0, 0, api.OK)
	var all strings.Builder
	for b := range 256 {
		if strings.IndexByte("()[].*+?|\\", byte(b)) < 0 {
			all.WriteByte(byte(b))
		}
	}
	a := built(t, all.String())
	wantNumberedWell(t, "all bytes", a)
	if automata.Match(a, []byte(all.String())) != 0 {
		t.Error("the pattern of all bytes does not have itself")
	}
}
