package digits_test

import (
	"fmt"
	"math"
	"math/rand"
	"slices"
	"strconv"
	"strings"
	"testing"
	"unicode/utf8"

	"orrery/api"
	"orrery/digits"
)

var kinds = []int{digits.Dec, digits.Hex, digits.Bin, digits.Oct}

// numbers: some of all sizes, with each power of two and its neighbours.
func numbers() []uint64 {
	list := []uint64{0, math.MaxUint64}
	for i := range 64 {
		p := uint64(1) << i
		list = append(list, p-1, p, p+1)
	}
	r := rand.New(rand.NewSource(2))
	for i := range 200 {
		list = append(list, r.Uint64()>>(i%64))
	}
	return list
}

func wantHead(t *testing.T, s string, v uint64, kind, n int, e api.Errno) {
	t.Helper()
	gv, gk, gn, ge := digits.Head(s)
	if gv != v || gk != kind || gn != n || ge != e {
		t.Errorf("Head(%q) = %d, %d, %d, %v; want %d, %d, %d, %v", s, gv, gk, gn, ge, v, kind, n, e)
	}
}

func wantRead(t *testing.T, s string, v uint64, kind, at int, e api.Errno) {
	t.Helper()
	gv, gk, ga, ge := digits.Read(s)
	if gv != v || gk != kind || ga != at || ge != e {
		t.Errorf("Read(%q) = %d, %d, %d, %v; want %d, %d, %d, %v", s, gv, gk, ga, ge, v, kind, at, e)
	}
}

func wantSigned(t *testing.T, s string, v int64, at int, e api.Errno) {
	t.Helper()
	gv, ga, ge := digits.Signed(s)
	if gv != v || ga != at || ge != e {
		t.Errorf("Signed(%q) = %d, %d, %v; want %d, %d, %v", s, gv, ga, ge, v, at, e)
	}
}

func wantShow(t *testing.T, v uint64, kind, width int, want string, wantErr api.Errno) {
	t.Helper()
	got, e := digits.Show(v, kind, width)
	if got != want || e != wantErr {
		t.Errorf("Show(%d, %d, %d) = %q, %v; want %q, %v", v, kind, width, got, e, want, wantErr)
	}
}

func wantText(t *testing.T, what, got, want string) {
	t.Helper()
	if got != want {
		t.Errorf("%s = %q, want %q", what, got, want)
	}
}

func wantColumns(t *testing.T, rows [][]string, right []bool, want ...string) {
	t.Helper()
	if got := digits.Columns(rows, right); !slices.Equal(got, want) {
		t.Errorf("Columns(%q, %v) = %q, want %q", rows, right, got, want)
	}
}

// F2.1, P202

func TestDigitOfEachByte(t *testing.T) {
	words, rule := digits.Words(), digits.Rule()
	if len(words) != 256 || len(rule) != 256 {
		t.Fatalf("%d words, %d of the rule; want 256", len(words), len(rule))
	}
	for c := range 256 {
		want := strings.IndexByte("0123456789abcdef", byte(c))
		if want < 0 {
			want = strings.IndexByte("          ABCDEF", byte(c))
		}
		if c == ' ' {
			want = -1
		}
		if got := digits.Digit(byte(c)); got != want {
			t.Errorf("Digit(%q) = %d, want %d", byte(c), got, want)
		}
		if words[c] != uint32(int32(want)) || rule[c] != uint32(int32(want)) {
			t.Errorf("word %d = %x, of the rule %x, want %x", c, words[c], rule[c], uint32(int32(want)))
		}
	}
}

func TestDigitIsTheTableAndItsRule(t *testing.T) {
	words, rule := digits.Words(), digits.Rule()
	if len(words) != 256 || !slices.Equal(words, rule) {
		t.Fatalf("Words is %v, Rule is %v", words, rule)
	}
	for c := range 256 {
		got := digits.Digit(byte(c))
		if got != int(int32(words[c])) || got != int(int32(rule[c])) {
			t.Errorf("Digit(%q) = %d; the table has %d, its rule %d", byte(c), got, int32(words[c]), int32(rule[c]))
		}
	}
}

func TestTablesAreNew(t *testing.T) {
	for what, f := range map[string]func() []uint32{"Words": digits.Words, "Rule": digits.Rule} {
		first := f()
		want := slices.Clone(first)
		full := first[:cap(first)]
		for i := range full {
			full[i] = 77
		}
		if got := f(); !slices.Equal(got, want) {
			t.Errorf("%s is not new memory: %v", what, got)
		}
	}
	if digits.Digit('7') != 7 || digits.Digit('M') != -1 {
		t.Error("Digit goes by what was handed out")
	}
}

// F2.2

func TestHeadOfEachKind(t *testing.T) {
	wantHead(t, "$1fz", 31, digits.Hex, 3, api.OK)
	wantHead(t, "$ABCDEF0123", 0xABCDEF0123, digits.Hex, 11, api.OK)
	wantHead(t, "$abcdefg", 0xabcdef, digits.Hex, 7, api.OK)
	wantHead(t, "%102", 2, digits.Bin, 3, api.OK)
	wantHead(t, "@178", 15, digits.Oct, 3, api.OK)
	wantHead(t, "42+1", 42, digits.Dec, 2, api.OK)
	wantHead(t, "9a", 9, digits.Dec, 1, api.OK)
	wantHead(t, "000", 0, digits.Dec, 3, api.OK)
	wantHead(t, "0x1Fg", 31, digits.Hex, 4, api.OK)
	wantHead(t, "0XaB ", 0xab, digits.Hex, 4, api.OK)
	wantHead(t, "$0x1", 0, digits.Hex, 2, api.OK)
	wantHead(t, "1\xff", 1, digits.Dec, 1, api.OK)
}

func TestHeadWithoutADigitOfHexBehindTheX(t *testing.T) {
	for _, s := range []string{"0x", "0X", "0xG", "0Xg", "0x$1", "0x ", "0x-1", "0x\xff", "0xé"} {
		wantHead(t, s, 0, digits.Dec, 1, api.OK)
	}
	wantHead(t, "1x1", 1, digits.Dec, 1, api.OK)
	wantHead(t, "00x1", 0, digits.Dec, 2, api.OK)
}

func TestHeadWithoutANumber(t *testing.T) {
	for _, s := range []string{"$", "$g", "$-1", "$$1", "%", "%2", "% 1", "@", "@8", "@\xff", "$é"} {
		wantHead(t, s, 0, 0, 1, api.ErrNumber)
	}
	for _, s := range []string{"", "-1", "+1", " 1", "a", "x", "x1", "\xff", "é", "#$1"} {
		wantHead(t, s, 0, 0, 0, api.ErrNumber)
	}
}

func TestHeadAtTheGreatest(t *testing.T) {
	wantHead(t, "18446744073709551615", math.MaxUint64, digits.Dec, 20, api.OK)
	wantHead(t, "18446744073709551615x", math.MaxUint64, digits.Dec, 20, api.OK)
	wantHead(t, "18446744073709551616", 0, 0, 19, api.ErrBig)
	wantHead(t, "18446744073709551616000x", 0, 0, 19, api.ErrBig)
	wantHead(t, "18446744073709551620", 0, 0, 19, api.ErrBig)
	wantHead(t, "184467440737095516150", 0, 0, 20, api.ErrBig)
	wantHead(t, "99999999999999999999", 0, 0, 19, api.ErrBig)
	wantHead(t, "00018446744073709551616", 0, 0, 22, api.ErrBig)
	wantHead(t, "$FFFFFFFFFFFFFFFF", math.MaxUint64, digits.Hex, 17, api.OK)
	wantHead(t, "$10000000000000000", 0, 0, 17, api.ErrBig)
	wantHead(t, "0xffffffffffffffff", math.MaxUint64, digits.Hex, 18, api.OK)
	wantHead(t, "0x10000000000000000", 0, 0, 18, api.ErrBig)
	wantHead(t, "%"+strings.Repeat("1", 64), math.MaxUint64, digits.Bin, 65, api.OK)
	wantHead(t, "%"+strings.Repeat("1", 65), 0, 0, 65, api.ErrBig)
	wantHead(t, "@1777777777777777777777", math.MaxUint64, digits.Oct, 23, api.OK)
	wantHead(t, "@2000000000000000000000", 0, 0, 22, api.ErrBig)
	wantHead(t, strings.Repeat("0", 100000)+"7", 7, digits.Dec, 100001, api.OK)
}

// F2.3

func TestRead(t *testing.T) {
	wantRead(t, "18446744073709551615", math.MaxUint64, digits.Dec, 0, api.OK)
	wantRead(t, "0X1f", 31, digits.Hex, 0, api.OK)
	wantRead(t, "$00ff", 255, digits.Hex, 0, api.OK)
	wantRead(t, "%101", 5, digits.Bin, 0, api.OK)
	wantRead(t, "@17", 15, digits.Oct, 0, api.OK)
	wantRead(t, "0", 0, digits.Dec, 0, api.OK)
}

func TestReadWithAnError(t *testing.T) {
	wantRead(t, "18446744073709551616", 0, 0, 19, api.ErrBig)
	wantRead(t, "184467440737095516160z", 0, 0, 19, api.ErrBig)
	wantRead(t, "@8", 0, 0, 1, api.ErrNumber)
	wantRead(t, "%", 0, 0, 1, api.ErrNumber)
	wantRead(t, "", 0, 0, 0, api.ErrNumber)
	wantRead(t, "-1", 0, 0, 0, api.ErrNumber)
	wantRead(t, "12a", 0, 0, 2, api.ErrNumber)
	wantRead(t, "12 ", 0, 0, 2, api.ErrNumber)
	wantRead(t, "0x", 0, 0, 1, api.ErrNumber)
	wantRead(t, "0xG", 0, 0, 1, api.ErrNumber)
	wantRead(t, "$1\xff", 0, 0, 2, api.ErrNumber)
}

func TestSigned(t *testing.T) {
	wantSigned(t, "0", 0, 0, api.OK)
	wantSigned(t, "-0", 0, 0, api.OK)
	wantSigned(t, "-$80", -128, 0, api.OK)
	wantSigned(t, "-0x80", -128, 0, api.OK)
	wantSigned(t, "-%11", -3, 0, api.OK)
	wantSigned(t, "@17", 15, 0, api.OK)
	wantSigned(t, "9223372036854775807", math.MaxInt64, 0, api.OK)
	wantSigned(t, "-9223372036854775807", -math.MaxInt64, 0, api.OK)
	wantSigned(t, "-9223372036854775808", math.MinInt64, 0, api.OK)
	wantSigned(t, "-$8000000000000000", math.MinInt64, 0, api.OK)
}

func TestSignedWithAnError(t *testing.T) {
	wantSigned(t, "9223372036854775808", 0, 0, api.ErrBig)
	wantSigned(t, "-9223372036854775809", 0, 1, api.ErrBig)
	wantSigned(t, "$8000000000000000", 0, 0, api.ErrBig)
	wantSigned(t, "-$8000000000000001", 0, 1, api.ErrBig)
	wantSigned(t, "18446744073709551615", 0, 0, api.ErrBig)
	wantSigned(t, "-18446744073709551615", 0, 1, api.ErrBig)
	wantSigned(t, "18446744073709551616", 0, 19, api.ErrBig)
	wantSigned(t, "-18446744073709551616", 0, 20, api.ErrBig)
	wantSigned(t, "-9223372036854775809z", 0, 20, api.ErrNumber)
	wantSigned(t, "--1", 0, 1, api.ErrNumber)
	wantSigned(t, "-", 0, 1, api.ErrNumber)
	wantSigned(t, "-$", 0, 2, api.ErrNumber)
	wantSigned(t, "", 0, 0, api.ErrNumber)
	wantSigned(t, "+1", 0, 0, api.ErrNumber)
	wantSigned(t, "- 1", 0, 1, api.ErrNumber)
	wantSigned(t, "1-", 0, 1, api.ErrNumber)
	wantSigned(t, "-12a", 0, 3, api.ErrNumber)
	wantSigned(t, "$-1", 0, 1, api.ErrNumber)
}

// F2.4

func TestShow(t *testing.T) {
	wantShow(t, 255, digits.Hex, 4, "$00FF", api.OK)
	wantShow(t, 0xabcdef, digits.Hex, 6, "$ABCDEF", api.OK)
	wantShow(t, 0xabcdef, digits.Hex, 5, "$ABCDEF", api.OK)
	wantShow(t, 5, digits.Bin, 8, "%00000101", api.OK)
	wantShow(t, 7, digits.Dec, 3, "007", api.OK)
	wantShow(t, math.MaxUint64, digits.Dec, 0, "18446744073709551615", api.OK)
	wantShow(t, math.MaxUint64, digits.Bin, 0, "%"+strings.Repeat("1", 64), api.OK)
	wantShow(t, math.MaxUint64, digits.Oct, 0, "@1777777777777777777777", api.OK)
	for _, width := range []int{0, 1} {
		wantShow(t, 0, digits.Dec, width, "0", api.OK)
		wantShow(t, 0, digits.Hex, width, "$0", api.OK)
		wantShow(t, 0, digits.Bin, width, "%0", api.OK)
		wantShow(t, 0, digits.Oct, width, "@0", api.OK)
	}
}

func TestShowOfEachDigitOfHex(t *testing.T) {
	const capitals = "0123456789ABCDEF"
	for v := range uint64(16) {
		digit := capitals[v : v+1]
		wantShow(t, v, digits.Hex, 0, "$"+digit, api.OK)
		wantShow(t, v, digits.Hex, 2, "$0"+digit, api.OK)
		wantShow(t, v<<60|v, digits.Hex, 16, "$"+digit+strings.Repeat("0", 14)+digit, api.OK)
	}
	wantShow(t, 0x0123456789abcdef, digits.Hex, 16, "$"+capitals, api.OK)
	wantShow(t, 0xfedcba9876543210, digits.Hex, 0, "$FEDCBA9876543210", api.OK)
}

// Against the library's own digits, at all sizes.
func TestShowOfManyNumbers(t *testing.T) {
	marks := map[int]string{digits.Dec: "", digits.Hex: "$", digits.Bin: "%", digits.Oct: "@"}
	for _, v := range numbers() {
		for _, kind := range kinds {
			wantShow(t, v, kind, 1, marks[kind]+strings.ToUpper(strconv.FormatUint(v, kind)), api.OK)
		}
	}
}

func TestShowAtItsWidths(t *testing.T) {
	wantShow(t, 9, digits.Dec, 64, strings.Repeat("0", 63)+"9", api.OK)
	wantShow(t, 0, digits.Oct, 64, "@"+strings.Repeat("0", 64), api.OK)
	for _, kind := range kinds {
		for _, width := range []int{65, -1, math.MaxInt, math.MinInt} {
			wantShow(t, 1, kind, width, "", api.ErrArg)
		}
	}
}

func TestShowOfOtherKinds(t *testing.T) {
	for kind := -40; kind <= 40; kind++ {
		if !slices.Contains(kinds, kind) {
			wantShow(t, 1, kind, 0, "", api.ErrArg)
		}
	}
	wantShow(t, 1, math.MaxInt, 0, "", api.ErrArg)
	wantShow(t, 1, math.MinInt, 0, "", api.ErrArg)
}

func TestDecimal(t *testing.T) {
	for _, v := range []int64{0, 1, -1, 10, -10, math.MaxInt64, math.MinInt64} {
		wantText(t, "Decimal", digits.Decimal(v), fmt.Sprint(v))
	}
}

func TestBytes(t *testing.T) {
	for n := 1; n <= 8; n++ {
		most := uint64(math.MaxUint64) >> (64 - 8*n)
		if got := digits.Bytes(most); got != n {
			t.Errorf("Bytes(%x) = %d, want %d", most, got, n)
		}
		if n < 8 && digits.Bytes(most+1) != n+1 {
			t.Errorf("Bytes(%x) = %d, want %d", most+1, digits.Bytes(most+1), n+1)
		}
	}
	if got := digits.Bytes(0); got != 1 {
		t.Errorf("Bytes(0) = %d, want 1", got)
	}
}

// F2.5

func TestWidth(t *testing.T) {
	for s, want := range map[string]int{
		"": 0, "abc": 3, "é\xff!": 3, "\xff\xfe": 2, "€": 1, "\xe2\x82": 2, "\xe2\x82\xac\xac": 2,
		"\U0001F600": 1, "\xf0\x9f\x98": 3, "\xed\xa0\x80": 3, "\xc0\x80": 2, "e\u0301": 2, "\x00": 1, "\uFFFD": 1,
	} {
		if got := digits.Width(s); got != want {
			t.Errorf("Width(%q) = %d, want %d", s, got, want)
		}
	}
}

func TestLeftAndRight(t *testing.T) {
	wantText(t, "Left", digits.Left("é", 3), "é  ")
	wantText(t, "Right", digits.Right("é", 3), "  é")
	wantText(t, "Left", digits.Left("\xff\xfe", 3), "\xff\xfe ")
	wantText(t, "Right", digits.Right("\xff\xfe", 3), " \xff\xfe")
	wantText(t, "Left", digits.Left("", 2), "  ")
	for _, width := range []int{3, 2, 0, -1, math.MinInt} {
		wantText(t, "Left", digits.Left("abc", width), "abc")
		wantText(t, "Right", digits.Right("abc", width), "abc")
	}
}

func TestLeftAndRightAtMaxLine(t *testing.T) {
	long := strings.Repeat("x", api.MaxLine+1)
	for _, width := range []int{api.MaxLine - 1, api.MaxLine, api.MaxLine + 1, 100000, math.MaxInt} {
		blanks := strings.Repeat(" ", min(width, api.MaxLine)-1)
		wantText(t, "Left", digits.Left("a", width), "a"+blanks)
		wantText(t, "Right", digits.Right("a", width), blanks+"a")
		wantText(t, "Left", digits.Left(long, width), long)
		wantText(t, "Right", digits.Right(long, width), long)
	}
}

func TestColumns(t *testing.T) {
	wantColumns(t, [][]string{{"a", "10", "x"}, {"bcd", "5"}}, []bool{false, true}, "a    10  x", "bcd   5")
	wantColumns(t, [][]string{{"a", "10", "x"}, {"bcd", "5"}}, nil, "a    10  x", "bcd  5")
	wantColumns(t, [][]string{{"a", "10", "x"}, {"bcd", "5"}}, []bool{true, true, true, true}, "  a  10  x", "bcd   5")
	wantColumns(t, [][]string{{"é", "b"}, {"\xff\xfe", "c"}}, nil, "é   b", "\xff\xfe  c")
	wantColumns(t, [][]string{{"aa"}, {"a"}}, []bool{false}, "aa", "a")
	wantColumns(t, [][]string{{"aa"}, {"a"}}, []bool{true}, "aa", " a")
}

func TestColumnsWithoutCells(t *testing.T) {
	wantColumns(t, nil, nil)
	wantColumns(t, [][]string{}, []bool{true})
	wantColumns(t, [][]string{{}, nil, {"a", "b"}}, []bool{true}, "", "", "a  b")
	wantColumns(t, [][]string{{"a", "b"}, {}}, nil, "a  b", "")
	wantColumns(t, [][]string{{"aa", "", "c"}, {"", "bb"}, {"", ""}}, nil, "aa      c", "    bb", "    ")
	wantColumns(t, [][]string{{"a "}, {"b"}}, nil, "a ", "b")
}

func TestColumnsAtMaxLine(t *testing.T) {
	for _, n := range []int{api.MaxLine - 1, api.MaxLine, api.MaxLine + 1, 1000} {
		wide := strings.Repeat("w", n)
		blanks := strings.Repeat(" ", min(n, api.MaxLine)-1)
		wantColumns(t, [][]string{{wide, "x"}, {"a", "y"}}, nil, wide+"  x", "a"+blanks+"  y")
		wantColumns(t, [][]string{{wide, "x"}, {"a", "y"}}, []bool{true}, wide+"  x", blanks+"a  y")
		wantColumns(t, [][]string{{wide}, {"a"}}, []bool{true}, wide, blanks+"a")
	}
}

func TestColumnsLeavesWhatIsHandedIn(t *testing.T) {
	row := append(make([]string, 0, 4), "a", "b")
	row[:4][2] = "spare"
	rows := append(make([][]string, 0, 3), row, []string{"ccc"})
	right := append(make([]bool, 0, 4), true)
	first := digits.Columns(rows, right)
	if !slices.Equal(row[:4], []string{"a", "b", "spare", ""}) || !slices.Equal(rows[1], []string{"ccc"}) || rows[:3][2] != nil {
		t.Errorf("rows were changed: %q", rows[:3])
	}
	if !slices.Equal(right[:4], []bool{true, false, false, false}) {
		t.Errorf("right was changed: %v", right[:4])
	}
	row[0] = "zz"
	if !slices.Equal(first, []string{"  a  b", "ccc"}) {
		t.Errorf("the lines changed with the rows: %q", first)
	}
	first[0] = "mine"
	wantColumns(t, rows, right, " zz  b", "ccc")
}

// P201

func TestThereAndBack(t *testing.T) {
	for _, v := range numbers() {
		for _, kind := range kinds {
			for _, width := range []int{0, 1, 2, 4, 8, 16, 20, 63, 64} {
				text, e := digits.Show(v, kind, width)
				if e != api.OK {
					t.Fatalf("Show(%d, %d, %d): %v", v, kind, width, e)
				}
				wantRead(t, text, v, kind, 0, api.OK)
			}
		}
	}
}

// P203

func TestSortedTexts(t *testing.T) {
	list := numbers()
	slices.Sort(list)
	list = slices.Compact(list)
	for w := 1; w <= 64; w++ {
		last := ""
		for _, v := range list {
			if w < 16 && v >= 1<<(4*w) {
				break
			}
			text, _ := digits.Show(v, digits.Hex, w)
			if len(text) != w+1 || text <= last {
				t.Fatalf("Show(%d, Hex, %d) = %q, behind %q", v, w, text, last)
			}
			last = text
		}
	}
}

// P204

func TestSignedOfDecimal(t *testing.T) {
	for _, v := range numbers() {
		wantSigned(t, digits.Decimal(int64(v)), int64(v), 0, api.OK)
		wantSigned(t, digits.Decimal(-int64(v)), -int64(v), 0, api.OK)
	}
}

// P205

// randomRows has cells without blanks, so that a cell's place in a line is plain.
func randomRows(r *rand.Rand) [][]string {
	pieces := []string{"a", "é", "\xff", "€", "b", "\U0001F600"}
	rows := make([][]string, r.Intn(6))
	for i := range rows {
		rows[i] = make([]string, r.Intn(5))
		for j := range rows[i] {
			for range 1 + r.Intn(9) {
				rows[i][j] += pieces[r.Intn(len(pieces))]
			}
		}
	}
	return rows
}

// characters: a text's, each as the text that it is.
func characters(s string) []string {
	var list []string
	for s != "" {
		_, n := utf8.DecodeRuneInString(s)
		list = append(list, s[:n])
		s = s[n:]
	}
	return list
}

func TestEachColumnBeginsAtOnePlace(t *testing.T) {
	r := rand.New(rand.NewSource(205))
	for range 500 {
		rows := randomRows(r)
		right := make([]bool, r.Intn(5))
		for i := range right {
			right[i] = r.Intn(2) == 0
		}
		begins, widths := make([]int, 6), make([]int, 6)
		for c := range 5 {
			for _, row := range rows {
				if c < len(row) {
					widths[c] = max(widths[c], len(characters(row[c])))
				}
			}
			begins[c+1] = begins[c] + widths[c] + 2
		}
		for i, line := range digits.Columns(rows, right) {
			list := characters(line)
			end := 0
			for c, cell := range rows[i] {
				begin := begins[c]
				if c < len(right) && right[c] {
					begin += widths[c] - len(characters(cell))
				}
				end = begin + len(characters(cell))
				if end > len(list) || strings.Join(list[begin:end], "") != cell {
					t.Fatalf("cell %d of %q is not at %d of %q", c, rows[i], begin, line)
				}
			}
			if len(list) != end {
				t.Fatalf("%q: something stands behind the last cell", line)
			}
		}
	}
}
