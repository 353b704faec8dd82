package rs_test

import (
	"bytes"
	"math"
	"math/rand"
	"slices"
	"testing"

	"orrery/api"
	"orrery/rs"
)

// times: of two elements of the field of 0x11d, bit by bit.
func times(a, b byte) byte {
	sum, x := 0, int(a)
	for ; b > 0; b >>= 1 {
		if b&1 == 1 {
			sum ^= x
		}
		x <<= 1
		if x > 255 {
			x ^= 0x11d
		}
	}
	return byte(sum)
}

// raised: 2 to the n, of any n.
func raised(n int) byte {
	x := byte(1)
	for range (n%255 + 255) % 255 {
		x = times(x, 2)
	}
	return x
}

// inverse: the one whose product with a is 1.
func inverse(a byte) byte {
	for b := range 256 {
		if times(a, byte(b)) == 1 {
			return byte(b)
		}
	}
	return 0
}

// worth: of the word's polynomial at x.
func worth(word []byte, x byte) byte {
	sum := byte(0)
	for _, b := range word {
		sum = times(sum, x) ^ b
	}
	return sum
}

// productOf: of polynomials of two coefficients, the constant one first.
func productOf(factors [][2]byte) []byte {
	product := []byte{1}
	for _, f := range factors {
		next := make([]byte, len(product)+1)
		for i, c := range product {
			next[i] ^= times(c, f[0])
			next[i+1] ^= times(c, f[1])
		}
		product = next
	}
	return product
}

func generatorOf(parity, first int) []byte {
	var factors [][2]byte
	for i := range parity {
		factors = append(factors, [2]byte{raised(first + i), 1})
	}
	return productOf(factors)
}

// encoded: by long division, byte by byte.
func encoded(generator, data []byte) []byte {
	parity := len(generator) - 1
	left := append(slices.Clone(data), make([]byte, parity)...)
	for i := range data {
		lead := left[i]
		for k := range generator {
			left[i+k] ^= times(lead, generator[parity-k])
		}
	}
	return append(slices.Clone(data), left[len(data):]...)
}

func syndromesOf(word []byte, parity, first int) []byte {
	var list []byte
	for i := range parity {
		list = append(list, worth(word, raised(first+i)))
	}
	return list
}

func isGood(word []byte, parity, first int) bool {
	return bytes.Equal(syndromesOf(word, parity, first), make([]byte, parity))
}

// locatorOf: the product over the places of a word of n bytes.
func locatorOf(n int, places []int) []byte {
	var factors [][2]byte
	for _, p := range places {
		factors = append(factors, [2]byte{1, raised(n - 1 - p)})
	}
	return productOf(factors)
}

func code(t *testing.T, parity, first int) *rs.Code {
	t.Helper()
	c, e := rs.New(parity, first)
	if c == nil || e != api.OK {
		t.Fatalf("New(%d, %d): %v, %v", parity, first, c, e)
	}
	return c
}

func wantBytes(t *testing.T, what string, got, want []byte) {
	t.Helper()
	if !bytes.Equal(got, want) {
		t.Errorf("%s: % x, not % x", what, got, want)
	}
}

func wantError(t *testing.T, what string, got, want api.Errno) {
	t.Helper()
	if got != want {
		t.Errorf("%s: %v, not %v", what, got, want)
	}
}

// someCodes: with the edges of parity and of first.
var someCodes = []struct{ parity, first int }{
	{1, 0}, {1, 1}, {1, 254}, {2, 0}, {2, 254}, {3, 1}, {4, 1}, {5, 120}, {10, 0}, {16, 254}, {32, 1}, {32, 112}, {127, 0}, {128, 7}, {253, 3}, {254, 0}, {254, 1}, {254, 254},
}

// lengths: of data that a code of so many parity bytes can have.
func lengths(parity int) []int {
	most := 255 - parity
	list := []int{1, 2, 3, most / 2, most - 1, most}
	list = slices.DeleteFunc(list, func(n int) bool { return n < 1 || n > most })
	slices.Sort(list)
	return slices.Compact(list)
}

func someBytes(r *rand.Rand, n int) []byte {
	list := make([]byte, n)
	for i := range list {
		list[i] = byte(r.Intn(256))
	}
	return list
}

// The chapter's own examples.
func TestExamples(t *testing.T) {
	c := code(t, 2, 0)
	wantBytes(t, "Generator", c.Generator(), []byte{2, 3, 1})
	word, e := c.Encode([]byte{1})
	wantBytes(t, "Encode", word, []byte{1, 3, 2})
	wantError(t, "Encode", e, api.OK)
	s, e := c.Syndromes([]byte{1, 3, 2})
	wantBytes(t, "Syndromes", s, []byte{0, 0})
	wantError(t, "Syndromes", e, api.OK)
	if c.Good([]byte{1, 3, 3}) || !c.Good([]byte{1, 3, 2}) {
		t.Error("Good of 1 3 3, or not of 1 3 2")
	}
	wantDecode(t, c, []byte{1, 3, 2}, []int{0, 1, 2}, nil, nil, api.ErrLost)
	wantDecode(t, c, []byte{1, 3}, nil, nil, nil, api.ErrArg)
	wantDecode(t, c, []byte{0, 3, 2}, nil, []byte{1}, []int{0}, api.OK)
}

func TestExampleOfFourParityBytes(t *testing.T) {
	c, data := code(t, 4, 1), []byte{0x40, 0xd2, 0x75}
	word, _ := c.Encode(data)
	if len(word) != 7 {
		t.Fatalf("%d bytes", len(word))
	}
	for i := range 7 {
		for k := range i {
			turned := slices.Clone(word)
			turned[i] ^= 0x55
			turned[k] ^= 0xa0
			wantDecode(t, c, turned, nil, data, []int{k, i}, api.OK)
		}
	}
	for i := range 7 * 7 * 7 * 7 {
		lost := []int{i % 7, i / 7 % 7, i / 49 % 7, i / 343}
		spoilt := slices.Clone(word)
		for _, p := range lost {
			spoilt[p] = ^word[p]
		}
		if rising := slices.Compact(slices.Sorted(slices.Values(lost))); len(rising) == 4 {
			wantDecode(t, c, spoilt, lost, data, rising, api.OK)
		}
	}
}

// P1101

func TestNew(t *testing.T) {
	for _, parity := range []int{1, 2, 100, 253, 254} {
		for _, first := range []int{0, 1, 100, 253, 254} {
			code(t, parity, first)
		}
	}
	wrongParities := []int{0, -1, -2, -254, 255, 256, 1<<8 + 1, 1<<16 + 2, 1<<32 + 2, math.MaxInt, math.MinInt}
	wrongFirsts := []int{-1, -2, -255, 255, 256, 1 << 16, 1 << 32, math.MaxInt, math.MinInt}
	for _, parity := range wrongParities {
		for _, first := range append(wrongFirsts, 0, 1, 254) {
			if c, e := rs.New(parity, first); c != nil || e != api.ErrArg {
				t.Errorf("New(%d, %d): %v, %v", parity, first, c, e)
			}
		}
	}
	for _, first := range wrongFirsts {
		for _, parity := range []int{1, 2, 254} {
			if c, e := rs.New(parity, first); c != nil || e != api.ErrArg {
				t.Errorf("New(%d, %d): %v, %v", parity, first, c, e)
			}
		}
	}
}

func TestGenerator(t *testing.T) {
	for parity := 1; parity <= 254; parity++ {
		for _, first := range []int{0, 1, 112, 254} {
			if parity > 40 && parity%50 != 0 && parity < 250 {
				continue
			}
			g := code(t, parity, first).Generator()
			if !bytes.Equal(g, generatorOf(parity, first)) {
				t.Errorf("the generator of %d, %d is % x", parity, first, g)
			}
			if len(g) != parity+1 || g[parity] != 1 {
				t.Errorf("the generator of %d, %d has %d coefficients", parity, first, len(g))
			}
		}
	}
}

// The generator of a code that QR symbols have, as it is published: by powers, the highest coefficient first.
func TestGeneratorThatIsPublished(t *testing.T) {
	powers := []int{0, 251, 67, 46, 61, 118, 70, 64, 94, 32, 45}
	g := code(t, 10, 0).Generator()
	slices.Reverse(g)
	for i, n := range powers {
		if len(g) != len(powers) || g[i] != raised(n) {
			t.Errorf("coefficient %d of % x is not %x", i, g, raised(n))
		}
	}
}

// P1102

func TestEncode(t *testing.T) {
	r := rand.New(rand.NewSource(11))
	for _, k := range someCodes {
		c, generator := code(t, k.parity, k.first), generatorOf(k.parity, k.first)
		for _, n := range lengths(k.parity) {
			ones := bytes.Repeat([]byte{255}, n)
			last := make([]byte, n)
			last[n-1] = 1
			for _, data := range [][]byte{make([]byte, n), ones, last, someBytes(r, n), someBytes(r, n)} {
				word, e := c.Encode(data)
				if !bytes.Equal(word, encoded(generator, data)) || e != api.OK {
					t.Errorf("%v: % x is encoded as % x, %v", k, data, word, e)
				}
				if !isGood(word, k.parity, k.first) || !c.Good(word) {
					t.Errorf("%v: % x is no multiple of the generator", k, word)
				}
			}
		}
	}
}

// The message and the parity bytes of the symbol of a QR code of version 1-M, as they are published for HELLO WORLD.
func TestEncodeThatIsPublished(t *testing.T) {
	data := []byte{32, 91, 11, 120, 209, 114, 220, 77, 67, 64, 236, 17, 236, 17, 236, 17}
	word, _ := code(t, 10, 0).Encode(data)
	wantBytes(t, "Encode", word, append(data, 196, 35, 39, 119, 235, 215, 231, 226, 93, 23))
}

func TestEncodeOfNoDataAndOfTooMany(t *testing.T) {
	for _, k := range someCodes {
		c := code(t, k.parity, k.first)
		for _, n := range []int{0, 256 - k.parity, 257 - k.parity, 255, 256, 1000} {
			want := api.ErrBig
			if n == 0 {
				want = api.ErrArg
			} else if n <= 255-k.parity {
				want = api.OK
			}
			word, e := c.Encode(make([]byte, n))
			if e != want || want != api.OK && word != nil {
				t.Errorf("%v: Encode of %d bytes: % x, %v, not %v", k, n, word, e, want)
			}
		}
		if word, e := c.Encode(nil); word != nil || e != api.ErrArg {
			t.Errorf("%v: Encode of nothing: % x, %v", k, word, e)
		}
	}
}

// P1103

func TestSyndromes(t *testing.T) {
	r := rand.New(rand.NewSource(12))
	for _, k := range someCodes {
		c := code(t, k.parity, k.first)
		for _, n := range lengths(k.parity) {
			for range 3 {
				word := someBytes(r, n+k.parity)
				s, e := c.Syndromes(word)
				if !bytes.Equal(s, syndromesOf(word, k.parity, k.first)) || e != api.OK {
					t.Errorf("%v: the syndromes of % x are % x, %v", k, word, s, e)
				}
				if c.Good(word) != isGood(word, k.parity, k.first) {
					t.Errorf("%v: Good of % x", k, word)
				}
			}
		}
	}
}

// A byte by itself tells which power belongs to its place.
func TestSyndromesOfOneByte(t *testing.T) {
	c := code(t, 3, 5)
	for place := range 255 {
		word := make([]byte, 255)
		word[place] = 7
		s, _ := c.Syndromes(word)
		for i := range 3 {
			if want := times(7, raised((5+i)*(254-place))); s[i] != want {
				t.Errorf("place %d: syndrome %d is %d, not %d", place, i, s[i], want)
			}
		}
	}
}

// What is not so long as words are is refused by all that have a word, and is not good.
func TestLengthsOfWords(t *testing.T) {
	for _, k := range someCodes {
		c := code(t, k.parity, k.first)
		for n, want := range map[int]api.Errno{
			0: api.ErrArg, 1: api.ErrArg, k.parity - 1: api.ErrArg, k.parity: api.ErrArg,
			k.parity + 1: api.OK, 255: api.OK, 256: api.ErrBig, 257: api.ErrBig, 512: api.ErrBig, 100000: api.ErrBig,
		} {
			word := make([]byte, n) // good, were it not for its length
			s, e := c.Syndromes(word)
			if e != want || want != api.OK && s != nil || want == api.OK && len(s) != k.parity {
				t.Errorf("%v: Syndromes of %d bytes: % x, %v", k, n, s, e)
			}
			if c.Good(word) != (want == api.OK) {
				t.Errorf("%v: Good of %d bytes: %v", k, n, c.Good(word))
			}
			data, places, e := c.Decode(word, nil)
			if e != want || len(places) != 0 || want != api.OK && data != nil || want == api.OK && len(data) != n-k.parity {
				t.Errorf("%v: Decode of %d bytes: % x, %v, %v", k, n, data, places, e)
			}
			locator, e := c.Locator(word, nil)
			if e != want || want != api.OK && locator != nil || want == api.OK && !bytes.Equal(locator, []byte{1}) {
				t.Errorf("%v: Locator of %d bytes: % x, %v", k, n, locator, e)
			}
		}
	}
}

// A word is good if it is what Encode makes of its data, and none other.
func TestGoodIsWhatEncodeMakes(t *testing.T) {
	c := code(t, 1, 3)
	for n := range 1 << 16 {
		word := []byte{byte(n >> 8), byte(n)}
		made, _ := c.Encode(word[:1])
		if c.Good(word) != bytes.Equal(made, word) {
			t.Fatalf("Good of % x: %v", word, c.Good(word))
		}
	}
	r := rand.New(rand.NewSource(13))
	for _, k := range someCodes {
		c := code(t, k.parity, k.first)
		data := someBytes(r, 1+(254-k.parity)/3)
		word, _ := c.Encode(data)
		for place := range word {
			turned := slices.Clone(word)
			turned[place] ^= byte(1 + r.Intn(255))
			if c.Good(turned) {
				t.Errorf("%v: with place %d turned it is good", k, place)
			}
		}
	}
}

// P1108
func TestGoodWordsAreLinear(t *testing.T) {
	r := rand.New(rand.NewSource(14))
	for _, k := range someCodes {
		c := code(t, k.parity, k.first)
		for _, n := range lengths(k.parity) {
			a, _ := c.Encode(someBytes(r, n))
			b, _ := c.Encode(someBytes(r, n))
			both := slices.Clone(a)
			for i := range b {
				both[i] ^= b[i]
			}
			if !c.Good(both) {
				t.Errorf("%v: % x is good, and % x, but not % x", k, a, b, both)
			}
			for _, ahead := range []int{1, 2, 255 - len(a)} {
				longer := append(make([]byte, ahead), a...)
				if c.Good(longer) != (len(longer) <= 255) {
					t.Errorf("%v: with %d zero bytes ahead, %d in all, Good is %v", k, ahead, len(longer), c.Good(longer))
				}
				longer[len(longer)-1] ^= 1
				if c.Good(longer) {
					t.Errorf("%v: with %d zero bytes ahead a turned word is good", k, ahead)
				}
			}
		}
	}
}

// apartAt: at how many places they are unlike.
func apartAt(a, b []byte) int {
	count := 0
	for i := range a {
		if a[i] != b[i] {
			count++
		}
	}
	return count
}

// P1109
func TestGoodWordsAreApart(t *testing.T) {
	for _, k := range []struct{ parity, first int }{{1, 0}, {2, 0}, {3, 254}, {4, 1}, {7, 100}} {
		c := code(t, k.parity, k.first)
		zero := make([]byte, 2+k.parity)
		for n := 1; n < 1<<16; n++ { // what two words differ by is a good word itself
			word, _ := c.Encode([]byte{byte(n >> 8), byte(n)})
			if apartAt(word, zero) <= k.parity {
				t.Fatalf("%v: % x", k, word)
			}
		}
	}
	r := rand.New(rand.NewSource(15))
	for _, k := range someCodes {
		c := code(t, k.parity, k.first)
		for _, n := range lengths(k.parity) {
			data := someBytes(r, n)
			a, _ := c.Encode(data)
			for range 20 {
				near := slices.Clone(data)
				for range 1 + r.Intn(3) {
					near[r.Intn(n)] ^= byte(1 + r.Intn(255))
				}
				b, _ := c.Encode(near)
				if !bytes.Equal(near, data) && apartAt(a, b) <= k.parity {
					t.Errorf("%v: % x and % x differ at %d places", k, a, b, apartAt(a, b))
				}
			}
		}
	}
}
