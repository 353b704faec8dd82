package ecc_test

import (
	"fmt"
	"math"
	mathbits "math/bits"
	"math/rand"
	"slices"
	"testing"

	"orrery/api"
	"orrery/ecc"
)

// widths: those that there are, each with how many check bits it has.
var widths = []struct{ d, r int }{{8, 4}, {16, 5}, {32, 6}, {64, 7}}

var wrongWidths = []int{0, 1, 4, 7, 9, 12, 15, 17, 24, 31, 33, 48, 63, 65, 128, 256, -1, -8, -64, 1<<32 + 8, math.MaxInt, math.MinInt}

// allOnes: data with just the bits below d set.
func allOnes(d int) uint64 { return math.MaxUint64 >> (64 - d) }

// someData: none, all, each bit by itself, each bit alone lacking, all bits up to each, and others of all lengths.
func someData(d int) []uint64 {
	list := []uint64{0, allOnes(d), 0x5555555555555555 & allOnes(d), 0xaaaaaaaaaaaaaaaa & allOnes(d)}
	for i := range d {
		list = append(list, 1<<i, allOnes(d)^1<<i, allOnes(i+1))
	}
	r := rand.New(rand.NewSource(10))
	for i := range 60 {
		list = append(list, r.Uint64()&allOnes(d)>>(i%d))
	}
	return list
}

// positions: where the data bits of a width stand: all places but the powers of two.
func positions(d int) []int {
	var list []int
	for p := 1; len(list) < d; p++ {
		if mathbits.OnesCount(uint(p)) != 1 {
			list = append(list, p)
		}
	}
	return list
}

// wordOf: the word of data, laid out place by place and counted, as the chapter's section Words tells it.
func wordOf(d, r int, data uint64) ecc.Word {
	check, at := uint8(0), positions(d)
	for i := range r {
		count := 0
		for bit := range d {
			if data>>bit&1 == 1 && at[bit]>>i&1 == 1 {
				count++
			}
		}
		check |= uint8(count%2) << i
	}
	all := mathbits.OnesCount64(data) + mathbits.OnesCount8(check)
	return ecc.Word{Data: data, Check: check | uint8(all%2)<<r}
}

// turned: a word with the bits of these numbers turned, without the package.
func turned(d int, w ecc.Word, list ...int) ecc.Word {
	for _, bit := range list {
		if bit < d {
			w.Data ^= 1 << bit
		} else {
			w.Check ^= 1 << (bit - d)
		}
	}
	return w
}

func mustEncode(t *testing.T, d int, data uint64) ecc.Word {
	t.Helper()
	w, e := ecc.Encode(d, data)
	if e != api.OK {
		t.Fatalf("Encode(%d, %#x) is %v", d, data, e)
	}
	return w
}

type found struct {
	data      uint64
	kind, bit int
	e         api.Errno
}

func decode(d int, w ecc.Word) found {
	data, kind, bit, e := ecc.Decode(d, w)
	return found{data, kind, bit, e}
}

func wantDecode(t *testing.T, d int, w ecc.Word, want found) {
	t.Helper()
	if got := decode(d, w); got != want {
		t.Errorf("Decode(%d, %#x) is %v, not %v", d, w, got, want)
	}
}

// mended: what Decode tells of a word of data one bit of which was turned.
func mended(d int, data uint64, bit int) found {
	if bit < d {
		return found{data, ecc.Data, bit, api.OK}
	}
	return found{data, ecc.Check, bit - d, api.OK}
}

// F10.1

func TestTable(t *testing.T) {
	var want []uint32
	for _, p := range positions(64) {
		want = append(want, uint32(p))
	}
	for a := range 10 {
		for b := range 10 {
			want = append(want, uint32(composed(a, b)))
		}
	}
	for what, got := range map[string][]uint32{"Words": ecc.Words(), "Rule": ecc.Rule()} {
		if len(got) != 164 {
			t.Fatalf("%s has %d words", what, len(got))
		}
		for i := range want {
			if got[i] != want[i] {
				t.Errorf("%s()[%d] is %d, not %d", what, i, got[i], want[i])
			}
		}
	}
	for i, n := range map[int]uint32{0: 3, 1: 5, 4: 9, 63: 71, 64 + 13: 4, 64 + 55: 0} {
		if got := ecc.Words()[i]; got != n {
			t.Errorf("Words()[%d] is %d, not %d", i, got, n)
		}
	}
}

// P1001
func TestWordsIsRule(t *testing.T) {
	words, rule := ecc.Words(), ecc.Rule()
	if len(words) != len(rule) {
		t.Fatalf("%d words, and %d of the rule", len(words), len(rule))
	}
	for i := range rule {
		if words[i] != rule[i] {
			t.Errorf("word %d is %d, the rule says %d", i, words[i], rule[i])
		}
	}
}

// Rule 4: what a caller writes into an answer, and into its spare room, nobody sees.
func TestWhatIsHandedOutIsTheCallers(t *testing.T) {
	for what, call := range map[string]func() []uint32{"Words": ecc.Words, "Rule": ecc.Rule} {
		want := slices.Clone(call())
		other := call()
		spoilt := call()
		spoilt = spoilt[:cap(spoilt)]
		for i := range spoilt {
			spoilt[i] = ^spoilt[i]
		}
		if !slices.Equal(other, want) || !slices.Equal(call(), want) {
			t.Errorf("%s is seen through what another call handed out", what)
		}
		if !slices.Equal(ecc.Words(), ecc.Rule()) {
			t.Errorf("%s, spoilt, bends the table", what)
		}
		if w := mustEncode(t, 64, allOnes(64)); w != wordOf(64, 7, allOnes(64)) {
			t.Errorf("%s, spoilt, bends what Encode goes by: %v", what, w)
		}
		if got := ecc.Product(5, 1); got != 9 {
			t.Errorf("%s, spoilt, bends Product(5, 1) to %d", what, got)
		}
	}
}

// F10.2

func TestChecks(t *testing.T) {
	for _, w := range widths {
		if r, e := ecc.Checks(w.d); r != w.r || e != api.OK {
			t.Errorf("Checks(%d) is %d, %v", w.d, r, e)
		}
	}
}

// A width that is none of the four is ErrArg ahead of all else: of words and bits that are right, and of those that are not.
func TestWrongWidths(t *testing.T) {
	for _, d := range wrongWidths {
		if r, e := ecc.Checks(d); r != 0 || e != api.ErrArg {
			t.Errorf("Checks(%d) is %d, %v", d, r, e)
		}
		for _, w := range []ecc.Word{{}, {Data: 1, Check: 19}, {Check: 19}, {Check: 17}, {Data: math.MaxUint64, Check: 255}} {
			if got, e := ecc.Encode(d, w.Data); got != (ecc.Word{}) || e != api.ErrArg {
				t.Errorf("Encode(%d, %d) is %v, %v", d, w.Data, got, e)
			}
			if ecc.Valid(d, w) {
				t.Errorf("Valid(%d, %v)", d, w)
			}
			wantRefused(t, d, w)
			for _, bit := range []int{0, 5, -1, math.MaxInt} {
				if got, e := ecc.Turn(d, w, bit); got != (ecc.Word{}) || e != api.ErrArg {
					t.Errorf("Turn(%d, %v, %d) is %v, %v", d, w, bit, got, e)
				}
			}
		}
	}
}

// wantRefused: by all that have a word and a width, with nothing beside the error.
func wantRefused(t *testing.T, d int, w ecc.Word) {
	t.Helper()
	if s, odd, e := ecc.Syndrome(d, w); s != 0 || odd || e != api.ErrArg {
		t.Errorf("Syndrome(%d, %v) is %d, %v, %v", d, w, s, odd, e)
	}
	wantDecode(t, d, w, found{e: api.ErrArg})
	if got, e := ecc.Turn(d, w, 0); got != (ecc.Word{}) || e != api.ErrArg {
		t.Errorf("Turn(%d, %v, 0) is %v, %v", d, w, got, e)
	}
	for _, pair := range [][2]ecc.Word{{w, {}}, {{}, w}, {w, w}} {
		if n, e := ecc.Distance(d, pair[0], pair[1]); n != 0 || e != api.ErrArg {
			t.Errorf("Distance(%d, %v, %v) is %d, %v", d, pair[0], pair[1], n, e)
		}
	}
}

func TestEncode(t *testing.T) {
	for _, w := range widths {
		for _, data := range someData(w.d) {
			if got, want := mustEncode(t, w.d, data), wordOf(w.d, w.r, data); got != want {
				t.Errorf("Encode(%d, %#x) is %#x, not %#x", w.d, data, got, want)
			}
		}
	}
	for data := range uint64(256) {
		if got, want := mustEncode(t, 8, data), wordOf(8, 4, data); got != want {
			t.Errorf("Encode(8, %d) is %v, not %v", data, got, want)
		}
	}
	for data, want := range map[uint64]ecc.Word{0: {}, 1: {Data: 1, Check: 19}} {
		if got := mustEncode(t, 8, data); got != want {
			t.Errorf("Encode(8, %d) is %v, not %v", data, got, want)
		}
	}
}

func TestEncodeOfDataThatIsTooWide(t *testing.T) {
	for _, w := range widths {
		mustEncode(t, w.d, allOnes(w.d))
		for bit := w.d; bit < 64; bit++ {
			for _, data := range []uint64{1 << bit, 1<<bit | 1, allOnes(bit + 1), math.MaxUint64} {
				if got, e := ecc.Encode(w.d, data); got != (ecc.Word{}) || e != api.ErrArg {
					t.Errorf("Encode(%d, %#x) is %v, %v", w.d, data, got, e)
				}
			}
		}
	}
}

func TestValid(t *testing.T) {
	for _, w := range widths {
		for _, data := range someData(w.d) {
			for check := range 256 {
				word := ecc.Word{Data: data, Check: uint8(check)}
				if got, want := ecc.Valid(w.d, word), check < 1<<(w.r+1); got != want {
					t.Fatalf("Valid(%d, %#x) is %v", w.d, word, got)
				}
			}
		}
	}
}

func TestWordsThatAreTooWide(t *testing.T) {
	for _, w := range widths {
		var list []ecc.Word
		for bit := w.d; bit < 64; bit++ {
			list = append(list, ecc.Word{Data: 1 << bit}, ecc.Word{Data: allOnes(bit + 1), Check: 1})
		}
		for bit := w.r + 1; bit < 8; bit++ {
			list = append(list, ecc.Word{Check: 1 << bit}, ecc.Word{Data: 1, Check: 1<<bit | 3})
		}
		for _, word := range list {
			if ecc.Valid(w.d, word) {
				t.Errorf("Valid(%d, %#x)", w.d, word)
			}
			wantRefused(t, w.d, word)
		}
	}
}

func TestSyndrome(t *testing.T) {
	for _, w := range widths {
		at := positions(w.d)
		for _, data := range someData(w.d) {
			for check := range 1 << (w.r + 1) {
				want, count := check&(1<<w.r-1), mathbits.OnesCount64(data)+mathbits.OnesCount(uint(check))
				for bit := range w.d {
					if data>>bit&1 == 1 {
						want ^= at[bit]
					}
				}
				word := ecc.Word{Data: data, Check: uint8(check)}
				if s, odd, e := ecc.Syndrome(w.d, word); s != want || odd != (count%2 == 1) || e != api.OK {
					t.Fatalf("Syndrome(%d, %#x) is %d, %v, %v, not %d of %d bits", w.d, word, s, odd, e, want, count)
				}
			}
		}
	}
}

// F10.3

func TestDecodeExamples(t *testing.T) {
	wantDecode(t, 8, ecc.Word{Data: 0, Check: 19}, found{1, ecc.Data, 0, api.OK})
	wantDecode(t, 8, ecc.Word{Data: 1, Check: 3}, found{1, ecc.Check, 4, api.OK})
	wantDecode(t, 8, ecc.Word{Data: 1, Check: 18}, found{1, ecc.Check, 0, api.OK})
	wantDecode(t, 8, ecc.Word{Data: 0, Check: 17}, found{e: api.ErrTwo})
	wantDecode(t, 8, ecc.Word{Data: 1, Check: 19}, found{1, ecc.Fine, 0, api.OK})
	wantDecode(t, 64, ecc.Word{}, found{0, ecc.Fine, 0, api.OK})
	if ecc.Fine != 0 || ecc.Data != 1 || ecc.Check != 2 {
		t.Errorf("the kinds are %d, %d, %d", ecc.Fine, ecc.Data, ecc.Check)
	}
}

// Every word of width 8 that there is: it is mended to the one of Encode that is no more than a bit away, if there is one.
func TestDecodeOfAllWordsOfABytesWidth(t *testing.T) {
	for data := range uint64(256) {
		for check := range 32 {
			w, want := ecc.Word{Data: data, Check: uint8(check)}, found{e: api.ErrTwo}
			for near := range uint64(256) {
				right := wordOf(8, 4, near)
				unlike := (w.Data ^ right.Data) | uint64(w.Check^right.Check)<<8
				switch mathbits.OnesCount64(unlike) {
				case 0:
					want = found{near, ecc.Fine, 0, api.OK}
				case 1:
					want = mended(8, near, mathbits.TrailingZeros64(unlike))
				}
			}
			wantDecode(t, 8, w, want)
		}
	}
}

// P1002
func TestOneIsMended(t *testing.T) {
	for _, w := range widths {
		for _, data := range someData(w.d) {
			word := mustEncode(t, w.d, data)
			wantDecode(t, w.d, word, found{data, ecc.Fine, 0, api.OK})
			for bit := range w.d + w.r + 1 {
				wantDecode(t, w.d, turned(w.d, word, bit), mended(w.d, data, bit))
			}
		}
	}
}

// P1003: two of the data, two of Check, one of each.
func TestTwoAreTold(t *testing.T) {
	for _, w := range widths {
		for _, data := range someData(w.d) {
			word := mustEncode(t, w.d, data)
			for a := range w.d + w.r + 1 {
				for b := range a {
					if got := decode(w.d, turned(w.d, word, a, b)); got != (found{e: api.ErrTwo}) {
						t.Fatalf("Decode(%d, ..) of %#x, with %d and %d turned, is %v", w.d, data, a, b, got)
					}
				}
			}
		}
	}
}

// A syndrome may be a position above d + r, where no bit stands: odd or even, it is ErrTwo.
func TestPositionsAboveTheWord(t *testing.T) {
	for _, w := range widths {
		for _, data := range someData(w.d) {
			right := wordOf(w.d, w.r, data)
			for s := w.d + w.r + 1; s < 1<<w.r; s++ {
				even := ecc.Word{Data: data, Check: right.Check ^ uint8(s)}
				if mathbits.OnesCount(uint(s))%2 == 1 {
					even.Check ^= 1 << w.r
				}
				for i, word := range []ecc.Word{even, turned(w.d, even, w.d+w.r)} {
					got, odd, e := ecc.Syndrome(w.d, word)
					if got != s || odd != (i == 1) || e != api.OK {
						t.Fatalf("Syndrome(%d, %#x) is %d, %v, %v, not %d", w.d, word, got, odd, e, s)
					}
					wantDecode(t, w.d, word, found{e: api.ErrTwo})
				}
			}
		}
	}
}

func TestTurn(t *testing.T) {
	for _, w := range widths {
		for _, data := range someData(w.d) {
			for _, word := range []ecc.Word{wordOf(w.d, w.r, data), {Data: data}, {Data: data, Check: uint8(allOnes(w.r + 1))}} {
				for bit := range w.d + w.r + 1 {
					once, e := ecc.Turn(w.d, word, bit)
					if once != turned(w.d, word, bit) || e != api.OK {
						t.Fatalf("Turn(%d, %#x, %d) is %#x, %v", w.d, word, bit, once, e)
					}
					if twice, e := ecc.Turn(w.d, once, bit); twice != word || e != api.OK {
						t.Fatalf("Turn(%d, %#x, %d) twice is %#x, %v", w.d, word, bit, twice, e)
					}
				}
			}
		}
		last := w.d + w.r
		for bit, want := range map[int]ecc.Word{0: {Data: 1}, w.d - 1: {Data: 1 << (w.d - 1)}, w.d: {Check: 1}, last: {Check: 1 << w.r}} {
			if got, e := ecc.Turn(w.d, ecc.Word{}, bit); got != want || e != api.OK {
				t.Errorf("Turn(%d, {}, %d) is %#x, %v", w.d, bit, got, e)
			}
		}
		for _, bit := range []int{-1, last + 1, last + 2, -w.d, 1 << 32, math.MaxInt, math.MinInt} {
			if got, e := ecc.Turn(w.d, ecc.Word{Data: 1}, bit); got != (ecc.Word{}) || e != api.ErrArg {
				t.Errorf("Turn(%d, {1, 0}, %d) is %v, %v", w.d, bit, got, e)
			}
		}
	}
}

func TestDistance(t *testing.T) {
	r := rand.New(rand.NewSource(11))
	for _, w := range widths {
		list := someData(w.d)
		for _, data := range list {
			a := ecc.Word{Data: data, Check: uint8(r.Intn(1 << (w.r + 1)))}
			for _, other := range append([]uint64{data}, list[:40]...) {
				b := ecc.Word{Data: other, Check: uint8(r.Intn(1 << (w.r + 1)))}
				want := mathbits.OnesCount64(a.Data^b.Data) + mathbits.OnesCount8(a.Check^b.Check)
				for _, pair := range [][2]ecc.Word{{a, b}, {b, a}} {
					if n, e := ecc.Distance(w.d, pair[0], pair[1]); n != want || e != api.OK {
						t.Fatalf("Distance(%d, %#x, %#x) is %d, %v, not %d", w.d, pair[0], pair[1], n, e, want)
					}
				}
			}
			if n, e := ecc.Distance(w.d, a, a); n != 0 || e != api.OK {
				t.Errorf("Distance(%d, %#x, itself) is %d, %v", w.d, a, n, e)
			}
		}
		full := ecc.Word{Data: allOnes(w.d), Check: uint8(allOnes(w.r + 1))}
		if n, e := ecc.Distance(w.d, full, ecc.Word{}); n != w.d+w.r+1 || e != api.OK {
			t.Errorf("Distance(%d, ..) of all bits and none is %d, %v", w.d, n, e)
		}
	}
}

// P1004

func wantFar(t *testing.T, d int, a, b uint64) {
	t.Helper()
	x, y := mustEncode(t, d, a), mustEncode(t, d, b)
	if n, e := ecc.Distance(d, x, y); n < 4 || e != api.OK {
		t.Fatalf("Distance(%d, Encode(%#x), Encode(%#x)) is %d, %v", d, a, b, n, e)
	}
	if got, want := mustEncode(t, d, a^b), (ecc.Word{Data: x.Data ^ y.Data, Check: x.Check ^ y.Check}); got != want {
		t.Fatalf("Encode(%d, %#x) is %#x, the exclusive or %#x", d, a^b, got, want)
	}
}

func TestWordsAreFarApart(t *testing.T) {
	for a := range uint64(256) {
		for b := range a {
			wantFar(t, 8, a, b)
		}
	}
	for _, w := range widths {
		list := someData(w.d)
		slices.Sort(list)
		list = slices.Compact(list)
		for i, a := range list {
			for _, b := range list[:i] {
				wantFar(t, w.d, a, b)
			}
		}
	}
}

// Of data that are unlike in up to three bits, all of them; more of them are far apart by themselves.
func TestWordsOfDataThatAreNearAreFarApart(t *testing.T) {
	for _, w := range widths {
		base := 0x123456789abcdef0 & allOnes(w.d)
		for i := range w.d {
			for j := range i + 1 {
				for k := range j + 1 {
					wantFar(t, w.d, base, base^(1<<i|1<<j|1<<k))
				}
			}
		}
	}
}

// Rule 5: the same answers to the same questions, whatever was asked between.
func TestAnswersHangOnTheirArguments(t *testing.T) {
	ask := func() string {
		w, _ := ecc.Encode(32, 0xdeadbeef)
		v, _ := ecc.Verhoeff("123456")
		l, _ := ecc.Luhn("123456")
		return fmt.Sprint(w, v, l, decode(32, turned(32, w, 3)), ecc.Product(7, 4), ecc.Words())
	}
	first := ask()
	ecc.Encode(8, 1)
	ecc.Decode(16, ecc.Word{Data: 77})
	ecc.Luhn("x")
	ecc.Permuted(-5, -5)
	if again := ask(); again != first {
		t.Errorf("%s, and then %s", first, again)
	}
}
