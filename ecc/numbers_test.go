package ecc_test

import (
	"math"
	"math/rand"
	"strings"
	"testing"

	"orrery/api"
	"orrery/ecc"
)

// extremes: numbers at both ends of int, and some far beyond the turns and the places.
var extremes = []int{math.MinInt, math.MinInt + 1, math.MinInt + 9, -1000, math.MaxInt, math.MaxInt - 1, math.MaxInt - 9, 1000}

// remainder: from 0 to m - 1, found by walking.
func remainder(n, m int) int {
	for n < 0 {
		n += m * max(1, -n/m)
	}
	return n % m
}

// corners: where a turn takes the five corners of the pentagon.
func corners(turn int) [5]int {
	var at [5]int
	for c := range at {
		if turn < 5 {
			at[c] = (c + turn) % 5
		} else {
			at[c] = (turn - c + 5) % 5
		}
	}
	return at
}

// composed: the turn that takes the corners where first b and then a takes them.
func composed(a, b int) int {
	var at [5]int
	for c := range at {
		at[c] = corners(a)[corners(b)[c]]
	}
	for turn := range 10 {
		if corners(turn) == at {
			return turn
		}
	}
	return -1
}

// published: what Verhoeff's places send the digits to.
var published = []string{"0123456789", "1576283094", "5803796142", "8916043527", "9453126870", "4286573901", "2793806415", "7046913258"}

// luhnIsRight: by the digits from the left, with what each counts looked up.
func luhnIsRight(digits string) bool {
	twice, sum := []int{0, 2, 4, 6, 8, 1, 3, 5, 7, 9}, 0
	for i, c := range digits {
		if (len(digits)-i)%2 == 0 {
			sum += twice[c-'0']
		} else {
			sum += int(c - '0')
		}
	}
	return digits != "" && sum%10 == 0
}

// verhoeffIsRight: by the corners of the pentagon and the published places, from the right.
func verhoeffIsRight(digits string) bool {
	turn := 0
	for i := range len(digits) {
		d := digits[len(digits)-1-i] - '0'
		turn = composed(turn, int(published[i%8][d]-'0'))
	}
	return digits != "" && turn == 0
}

// scheme: Luhn's or Verhoeff's.
type scheme struct {
	name    string
	digit   func(string) (byte, api.Errno)
	isRight func(string) bool
	oracle  func(string) bool
}

func schemes() []scheme {
	return []scheme{
		{"Luhn", ecc.Luhn, ecc.LuhnRight, luhnIsRight},
		{"Verhoeff", ecc.Verhoeff, ecc.VerhoeffRight, verhoeffIsRight},
	}
}

// short: all numbers of up to so many digits, that of none too.
func short(most int) []string {
	list := []string{""}
	for from := 0; most > 0; most-- {
		to := len(list)
		for _, s := range list[from:to] {
			for d := range 10 {
				list = append(list, s+string(rune('0'+d)))
			}
		}
		from = to
	}
	return list
}

// long: numbers of many digits, of each length up to 40 and some beyond.
func long() []string {
	r := rand.New(rand.NewSource(12))
	var list []string
	for n := 1; n <= 44; n++ {
		length := n
		if n > 40 {
			length = 250 * (n - 39)
		}
		b := make([]byte, length)
		for i := range b {
			b[i] = '0' + byte(r.Intn(10))
		}
		list = append(list, string(b))
	}
	return append(list, strings.Repeat("9", 300), strings.Repeat("0", 300), strings.Repeat("09", 77))
}

func digitOf(t *testing.T, s scheme, digits string) string {
	t.Helper()
	d, e := s.digit(digits)
	if e != api.OK || d < '0' || d > '9' {
		t.Fatalf("%s(%q) is %d, %v", s.name, digits, d, e)
	}
	return string(rune(d))
}

// F10.4, F10.5

func TestDigitExamples(t *testing.T) {
	examples := map[string]map[string]string{
		"Luhn":     {"7992739871": "3", "": "0", "0": "0", "00": "0", "1": "8", "5": "9", "1789372997": "4"},
		"Verhoeff": {"236": "3", "": "0", "12345": "1", "142857": "0"},
	}
	for _, s := range schemes() {
		for digits, want := range examples[s.name] {
			if got := digitOf(t, s, digits); got != want {
				t.Errorf("%s(%q) is %s, not %s", s.name, digits, got, want)
			}
		}
	}
	for digits, want := range map[string][2]bool{"79927398713": {true, false}, "2363": {false, true}, "2633": {false, false}, "": {false, false}, "0": {true, true}, "18": {true, false}, "1": {false, false}} {
		if got := [2]bool{ecc.LuhnRight(digits), ecc.VerhoeffRight(digits)}; got != want {
			t.Errorf("%q is right: %v, not %v", digits, got, want)
		}
	}
}

func TestWhatIsRight(t *testing.T) {
	for _, s := range schemes() {
		for _, digits := range append(short(4), long()...) {
			if got, want := s.isRight(digits), s.oracle(digits); got != want {
				t.Errorf("%sRight(%q) is %v", s.name, digits, got)
			}
		}
	}
}

// P1007
func TestExactlyOneDigit(t *testing.T) {
	for _, s := range schemes() {
		for _, digits := range append(short(3), long()...) {
			digit := digitOf(t, s, digits)
			for d := range 10 {
				behind := string(rune('0' + d))
				if got := s.isRight(digits + behind); got != (behind == digit) {
					t.Errorf("%sRight(%q) is %v, and the digit behind it is %s", s.name, digits+behind, got, digit)
				}
			}
			if !s.oracle(digits + digit) {
				t.Errorf("%s(%q) is %s", s.name, digits, digit)
			}
		}
	}
}

// slips: a number with each digit changed to each other one, and with each two unlike neighbours exchanged, but those that the scheme does not tell.
func slips(s scheme, digits string, each func(slip string)) {
	for i := range len(digits) {
		for d := range 10 {
			if c := byte('0' + d); c != digits[i] {
				each(digits[:i] + string(rune(c)) + digits[i+1:])
			}
		}
		if i == 0 || digits[i-1] == digits[i] || s.name == "Luhn" && areZeroAndNine(digits[i-1:i+1]) {
			continue
		}
		each(digits[:i-1] + digits[i:i+1] + digits[i-1:i] + digits[i+1:])
	}
}

func areZeroAndNine(pair string) bool { return pair == "09" || pair == "90" }

// P1006
func TestSlipsAreTold(t *testing.T) {
	for _, s := range schemes() {
		for _, digits := range append(short(3), long()[:40]...) {
			right := digits + digitOf(t, s, digits)
			if !s.isRight(right) {
				t.Fatalf("%sRight(%q) is false", s.name, right)
			}
			slips(s, right, func(slip string) {
				if s.isRight(slip) {
					t.Errorf("%sRight(%q), a slip of %q", s.name, slip, right)
				}
			})
		}
	}
}

// What Luhn's digit does not tell: 0 and 9 exchanged, wherever they stand.
func TestZeroAndNineExchanged(t *testing.T) {
	for _, ahead := range short(2) {
		for _, behind := range short(2) {
			for _, s := range schemes() {
				right := ahead + "09" + behind
				right += digitOf(t, s, right)
				slip := right[:len(ahead)] + "90" + right[len(ahead)+2:]
				if got := s.isRight(slip); got != (s.name == "Luhn") {
					t.Errorf("%sRight(%q) is %v, as %q is right", s.name, slip, got, right)
				}
			}
		}
	}
	for right, slip := range map[string]string{"091": "901", "109": "190", "90": "09"} {
		if ecc.LuhnRight(right) != ecc.LuhnRight(slip) {
			t.Errorf("Luhn tells %q from %q", right, slip)
		}
	}
}

// Wrong inputs: a byte that is no digit, first, last and between, and alone.
func TestBytesThatAreNoDigits(t *testing.T) {
	for c := range 256 {
		if c >= '0' && c <= '9' {
			continue
		}
		bad := string([]byte{byte(c)})
		for _, digits := range []string{bad, bad + "0", "0" + bad, "7" + bad + "3", bad + "236", "23" + bad + "6", "236" + bad, "7992739871" + bad, bad + bad, strings.Repeat("0", 99) + bad, bad + strings.Repeat("0", 99)} {
			wantNoNumber(t, digits)
		}
	}
	for _, digits := range []string{"1a", "٣", "１", "12 34", "-5", "+5", "1.0", "0x10", "\x00", "5\n"} {
		wantNoNumber(t, digits)
	}
}

func wantNoNumber(t *testing.T, digits string) {
	t.Helper()
	for _, s := range schemes() {
		if d, e := s.digit(digits); d != 0 || e != api.ErrNumber {
			t.Errorf("%s(%q) is %d, %v", s.name, digits, d, e)
		}
		if s.isRight(digits) {
			t.Errorf("%sRight(%q)", s.name, digits)
		}
	}
}

// F10.5: the product is that of the pentagon's turns, of numbers in their whole range.
func TestProduct(t *testing.T) {
	var list []int
	for n := -31; n <= 31; n++ {
		list = append(list, n)
	}
	list = append(list, extremes...)
	for _, a := range list {
		for _, b := range list {
			if got, want := ecc.Product(a, b), composed(remainder(a, 10), remainder(b, 10)); got != want {
				t.Errorf("Product(%d, %d) is %d, not %d", a, b, got, want)
			}
		}
	}
	for pair, want := range map[[2]int]int{{1, 5}: 6, {5, 1}: 9, {5, 5}: 0, {-1, 0}: 9, {0, 10}: 0, {4, 4}: 3, {9, 5}: 4, {5, 9}: 1, {-9, 15}: 6} {
		if got := ecc.Product(pair[0], pair[1]); got != want {
			t.Errorf("Product(%d, %d) is %d, not %d", pair[0], pair[1], got, want)
		}
	}
}

// P1005
func TestTurnsAreAGroup(t *testing.T) {
	commute := true
	for a := range 10 {
		if ecc.Product(a, 0) != a || ecc.Product(0, a) != a {
			t.Errorf("0 changes %d", a)
		}
		if i := ecc.Inverse(a); ecc.Product(a, i) != 0 || ecc.Product(i, a) != 0 {
			t.Errorf("Inverse(%d) is %d", a, i)
		}
		for b := range 10 {
			commute = commute && ecc.Product(a, b) == ecc.Product(b, a)
			for c := range 10 {
				if l, r := ecc.Product(ecc.Product(a, b), c), ecc.Product(a, ecc.Product(b, c)); l != r {
					t.Errorf("%d %d %d is %d from the left, %d from the right", a, b, c, l, r)
				}
			}
		}
	}
	if commute {
		t.Error("all turns commute")
	}
}

func TestInverse(t *testing.T) {
	for a, want := range []int{0, 4, 3, 2, 1, 5, 6, 7, 8, 9} {
		for _, n := range []int{a, a + 10, a + 90, a - 10, a - 100} {
			if got := ecc.Inverse(n); got != want {
				t.Errorf("Inverse(%d) is %d, not %d", n, got, want)
			}
		}
	}
	for _, n := range extremes {
		if got, want := ecc.Inverse(n), ecc.Inverse(remainder(n, 10)); got != want {
			t.Errorf("Inverse(%d) is %d, not %d", n, got, want)
		}
	}
}

func TestPermuted(t *testing.T) {
	places, digits := append([]int{}, extremes...), append([]int{}, extremes...)
	for n := -33; n <= 33; n++ {
		places, digits = append(places, n), append(digits, n)
	}
	for _, place := range places {
		for _, digit := range digits {
			want := int(published[remainder(place, 8)][remainder(digit, 10)] - '0')
			if got := ecc.Permuted(place, digit); got != want {
				t.Errorf("Permuted(%d, %d) is %d, not %d", place, digit, got, want)
			}
		}
	}
	for pair, want := range map[[2]int]int{{2, 0}: 5, {0, 7}: 7, {8, 7}: 7, {9, 0}: 1, {-1, 0}: 7, {-8, 3}: 3, {1, -1}: 4, {1, 19}: 4} {
		if got := ecc.Permuted(pair[0], pair[1]); got != want {
			t.Errorf("Permuted(%d, %d) is %d, not %d", pair[0], pair[1], got, want)
		}
	}
}

// A text of the greatest length is no harder than a short one.
func TestManyDigits(t *testing.T) {
	for _, s := range schemes() {
		for _, n := range []int{api.MaxText - 1, api.MaxText, api.MaxText + 1} {
			digits := strings.Repeat("73", n/2) + strings.Repeat("9", n%2)
			if right := digits + digitOf(t, s, digits); !s.isRight(right) {
				t.Errorf("%s of %d digits is not right", s.name, n)
			}
			if _, e := s.digit(digits + "x"); e != api.ErrNumber {
				t.Errorf("%s of %d digits and an x is %v", s.name, n, e)
			}
		}
	}
}
