package rs_test

import (
	"bytes"
	"fmt"
	"math"
	"math/rand"
	"slices"
	"testing"

	"orrery/api"
	"orrery/rs"
)

// wantDecode: what Decode answers of a word, and with it what Locator does.
func wantDecode(t *testing.T, c *rs.Code, word []byte, lost []int, data []byte, places []int, want api.Errno) {
	t.Helper()
	got, at, e := c.Decode(word, lost)
	if !bytes.Equal(got, data) || !slices.Equal(at, places) || e != want {
		t.Errorf("Decode(% x, %v): % x, %v, %v, not % x, %v, %v", word, lost, got, at, e, data, places, want)
	}
	if !slices.IsSorted(at) {
		t.Errorf("Decode(% x, %v): the places %v do not rise", word, lost, at)
	}
	var locator []byte
	if want == api.OK {
		all := slices.Concat(places, lost)
		slices.Sort(all)
		locator = locatorOf(len(word), slices.Compact(all))
	}
	l, e := c.Locator(word, lost)
	if !bytes.Equal(l, locator) || e != want {
		t.Errorf("Locator(% x, %v): % x, %v, not % x, %v", word, lost, l, e, locator, want)
	}
	if want != api.OK && (got != nil || at != nil || l != nil) {
		t.Errorf("(% x, %v): with an error %v, %v, %v are answered", word, lost, got, at, l)
	}
}

// differs: the places at which they are unlike.
func differs(a, b []byte) (places []int) {
	for i := range a {
		if a[i] != b[i] {
			places = append(places, i)
		}
	}
	return places
}

// unlikeBeside: at how many places, without the lost ones.
func unlikeBeside(a, b []byte, lost [256]bool) int {
	count := 0
	for i := range a {
		if a[i] != b[i] && !lost[i] {
			count++
		}
	}
	return count
}

// wantNearest: Decode answers the one of all good words that is near enough, if there is one.
func wantNearest(t *testing.T, c *rs.Code, good [][]byte, parity int, word []byte, lost []int) (mended bool) {
	t.Helper()
	var near [][]byte
	var isLost [256]bool
	for _, p := range lost {
		isLost[p] = true
	}
	for _, g := range good {
		if 2*unlikeBeside(g, word, isLost)+len(lost) <= parity {
			near = append(near, g)
		}
	}
	switch len(near) {
	case 0:
		wantDecode(t, c, word, lost, nil, nil, api.ErrLost)
	case 1:
		wantDecode(t, c, word, lost, near[0][:len(word)-parity], differs(near[0], word), api.OK)
	default:
		t.Errorf("% x has %d good words near by", word, len(near))
	}
	return len(near) == 1
}

// goodWords: all of n bytes of data, by the test's own division.
func goodWords(parity, first, n int) [][]byte {
	generator := generatorOf(parity, first)
	var list [][]byte
	for d := range 1 << (8 * n) {
		data := make([]byte, n)
		for i := range data {
			data[i] = byte(d >> (8 * i))
		}
		list = append(list, encoded(generator, data))
	}
	return list
}

// P1104: words of two bytes, and all lost places.
func TestDecodeOfShortWords(t *testing.T) {
	for _, first := range []int{0, 1, 254} {
		c, good := code(t, 1, first), goodWords(1, first, 1)
		for n := range 1 << 16 {
			if n%11 != first%11 { // the codes share them among themselves
				continue
			}
			word := []byte{byte(n >> 8), byte(n)}
			for _, lost := range [][]int{nil, {0}, {1}} {
				wantNearest(t, c, good, 1, word, lost)
			}
			wantDecode(t, c, word, []int{1, 0}, nil, nil, api.ErrLost)
		}
	}
}

// P1104: words of few data bytes, held against all good ones.
func TestDecodeIsTheNearestGoodWord(t *testing.T) {
	r := rand.New(rand.NewSource(21))
	mended, given := 0, 0
	for _, k := range []struct{ parity, first, n, tries int }{
		{1, 0, 1, 500}, {2, 0, 1, 4000}, {2, 254, 1, 4000}, {3, 1, 1, 4000}, {4, 1, 1, 4000}, {4, 0, 1, 2000}, {5, 7, 1, 2000}, {6, 253, 1, 2000}, {9, 100, 1, 2000},
		{1, 1, 2, 60}, {2, 0, 2, 150}, {3, 254, 2, 150}, {4, 1, 2, 150}, {6, 0, 2, 100},
	} {
		c, good := code(t, k.parity, k.first), goodWords(k.parity, k.first, k.n)
		for range k.tries {
			word := slices.Clone(good[r.Intn(len(good))])
			for range r.Intn(k.parity + 2) {
				word[r.Intn(len(word))] = byte(r.Intn(256))
			}
			lost := r.Perm(len(word))[:r.Intn(min(k.parity+1, len(word))+1)]
			if r.Intn(3) == 0 {
				lost = nil
			}
			given++
			if wantNearest(t, c, good, k.parity, word, lost) {
				mended++
			}
		}
	}
	if mended < given/10 || mended > given*9/10 {
		t.Errorf("%d of %d words were to be mended: that tells little", mended, given)
	}
}

// solved: is there a good word that differs from this one at none but these places, at most as many as parity? By elimination.
func solved(word []byte, parity, first int, places []int) ([]byte, bool) {
	var rows [][]byte
	for i, s := range syndromesOf(word, parity, first) {
		row := make([]byte, len(places)+1)
		for k, p := range places {
			row[k] = raised((first + i) * (len(word) - 1 - p))
		}
		row[len(places)] = s
		rows = append(rows, row)
	}
	for k := range places {
		at := slices.IndexFunc(rows[k:], func(row []byte) bool { return row[k] != 0 }) + k // there is one: the columns do not hang on each other
		rows[k], rows[at] = rows[at], rows[k]
		scale := inverse(rows[k][k])
		for i := range rows[k] {
			rows[k][i] = times(rows[k][i], scale)
		}
		for other := range rows {
			if by := rows[other][k]; other != k && by != 0 {
				for i := range rows[other] {
					rows[other][i] ^= times(by, rows[k][i])
				}
			}
		}
	}
	mended := slices.Clone(word)
	for k, row := range rows {
		if k < len(places) {
			mended[places[k]] ^= row[len(places)]
		} else if row[len(places)] != 0 {
			return nil, false
		}
	}
	return mended, true
}

// subsets: of so many of the numbers from at to n - 1, without the lost ones.
func subsets(at, n, size int, lost []int, each func(places []int)) {
	if size == 0 {
		each(nil)
		return
	}
	for p := at; p < n; p++ {
		if !slices.Contains(lost, p) {
			subsets(p+1, n, size-1, lost, func(places []int) { each(append([]int{p}, places...)) })
		}
	}
}

// P1104: words far from all good ones, with each set of places at which they could be mended asked by itself.
func TestDecodeAsksAllSetsOfPlaces(t *testing.T) {
	r := rand.New(rand.NewSource(22))
	mended, given := 0, 0
	for _, k := range []struct{ parity, first, n, lost, tries int }{
		{2, 0, 255, 0, 12}, {2, 254, 100, 0, 12}, {3, 1, 254, 1, 12}, {3, 1, 90, 0, 12},
		{4, 1, 40, 0, 6}, {4, 0, 12, 0, 12}, {4, 200, 30, 2, 40}, {5, 7, 20, 1, 12}, {6, 0, 10, 0, 12}, {6, 1, 9, 2, 40}, {8, 3, 12, 4, 40}, {8, 3, 12, 8, 12},
	} {
		c := code(t, k.parity, k.first)
		for range k.tries {
			word, lost := someBytes(r, k.n), r.Perm(k.n)[:k.lost]
			if r.Intn(2) == 0 { // one that is far from a good word, but not from every one, it may be
				word, _ = c.Encode(someBytes(r, k.n-k.parity))
				for range (k.parity-k.lost)/2 + 1 {
					word[r.Intn(k.n)] = byte(r.Intn(256))
				}
			}
			var want []byte
			subsets(0, k.n, (k.parity-k.lost)/2, lost, func(places []int) {
				if m, ok := solved(word, k.parity, k.first, slices.Concat(places, lost)); ok {
					want = m
				}
			})
			given++
			if want == nil {
				wantDecode(t, c, word, lost, nil, nil, api.ErrLost)
				continue
			}
			mended++
			wantDecode(t, c, word, lost, want[:k.n-k.parity], differs(word, want), api.OK)
		}
	}
	if mended < given/10 || mended > given*9/10 {
		t.Errorf("%d of %d words were to be mended: that tells little", mended, given)
	}
}

// spoilt: a word of the code with e bytes turned, and f others lost of which some are turned, too.
func spoilt(r *rand.Rand, word []byte, e, f int) (turned []byte, lost []int) {
	turned = slices.Clone(word)
	places := r.Perm(len(word))
	for _, p := range places[:e] {
		turned[p] ^= byte(1 + r.Intn(255))
	}
	lost = places[e : e+f]
	for _, p := range lost {
		turned[p] ^= byte(r.Intn(256) * r.Intn(2))
	}
	return turned, lost
}

// losses: how many may be lost of parity.
func losses(parity int) []int {
	list := []int{0, 1, 2, 3, parity / 2, parity - 3, parity - 2, parity - 1, parity}
	list = slices.DeleteFunc(list, func(f int) bool { return f < 0 || f > parity })
	slices.Sort(list)
	return slices.Compact(list)
}

// P1107, and with all that is let of 2 e + f.
func TestItMends(t *testing.T) {
	r := rand.New(rand.NewSource(23))
	for _, k := range someCodes {
		c := code(t, k.parity, k.first)
		for _, n := range lengths(k.parity) {
			data := someBytes(r, n)
			word, _ := c.Encode(data)
			for _, f := range losses(k.parity) {
				for e := range (k.parity-f)/2 + 1 {
					if e > 3 && e < (k.parity-f)/2-1 {
						continue
					}
					turned, lost := spoilt(r, word, e, f)
					wantDecode(t, c, turned, lost, data, differs(turned, word), api.OK)
				}
			}
		}
	}
}

// With 2 e + f one above parity no good word is near enough: they are too far apart.
func TestOneAboveWhatIsBorne(t *testing.T) {
	r := rand.New(rand.NewSource(24))
	for _, k := range someCodes {
		c := code(t, k.parity, k.first)
		for _, n := range lengths(k.parity) {
			word, _ := c.Encode(someBytes(r, n))
			for _, f := range append(losses(k.parity), k.parity+1) {
				if (k.parity+1-f)%2 == 0 {
					turned, lost := spoilt(r, word, (k.parity+1-f)/2, f)
					wantDecode(t, c, turned, lost, nil, nil, api.ErrLost)
				}
			}
		}
	}
}

func TestEachPlaceIsMended(t *testing.T) {
	r := rand.New(rand.NewSource(25))
	for _, k := range []struct{ parity, first int }{{1, 0}, {2, 0}, {2, 254}, {3, 5}, {16, 1}, {120, 254}} {
		c := code(t, k.parity, k.first)
		data := someBytes(r, 255-k.parity)
		word, _ := c.Encode(data)
		for place := range word {
			turned := slices.Clone(word)
			turned[place] ^= byte(1 + r.Intn(255))
			wantDecode(t, c, turned, []int{place}, data, []int{place}, api.OK)
			if k.parity > 1 {
				wantDecode(t, c, turned, nil, data, []int{place}, api.OK)
			} else {
				wantDecode(t, c, turned, nil, nil, nil, api.ErrLost)
			}
		}
	}
}

// A good word is answered as it stands, whatever is lost of it, up to parity.
func TestDecodeOfGoodWords(t *testing.T) {
	r := rand.New(rand.NewSource(26))
	for _, k := range someCodes {
		c := code(t, k.parity, k.first)
		for _, n := range lengths(k.parity) {
			for _, data := range [][]byte{make([]byte, n), someBytes(r, n)} {
				word, _ := c.Encode(data)
				wantDecode(t, c, word, nil, data, nil, api.OK)
				wantDecode(t, c, word, []int{}, data, nil, api.OK)
				for _, f := range losses(k.parity) {
					wantDecode(t, c, word, r.Perm(len(word))[:f], data, nil, api.OK)
				}
				wantDecode(t, c, word, r.Perm(len(word))[:k.parity+1], nil, nil, api.ErrLost)
				wantDecode(t, c, word, r.Perm(len(word)), nil, nil, api.ErrLost)
			}
		}
	}
}

// The order in which places are lost does not matter; that in which they are found is rising.
func TestLostPlacesInAnyOrder(t *testing.T) {
	c, data := code(t, 6, 1), []byte("orrery")
	word, _ := c.Encode(data)
	turned := slices.Clone(word)
	for _, p := range []int{1, 4, 7, 11} {
		turned[p] ^= 0x5a
	}
	r := rand.New(rand.NewSource(27))
	for range 50 {
		lost := []int{11, 3, 7, 1} // nothing is turned at 3, and 4 is not lost
		r.Shuffle(4, func(i, k int) { lost[i], lost[k] = lost[k], lost[i] })
		wantDecode(t, c, turned, lost, data, []int{1, 4, 7, 11}, api.OK)
	}
}

// A word that could be mended only ahead of its first byte is lost: the longer one, with these places, is mended.
func TestPlacesThatTheWordDoesNotHave(t *testing.T) {
	r := rand.New(rand.NewSource(28))
	for _, k := range []struct{ parity, first, n int }{{2, 0, 1}, {2, 1, 100}, {4, 254, 3}, {5, 0, 20}, {16, 1, 30}, {100, 3, 50}} {
		c := code(t, k.parity, k.first)
		for ahead := 1; k.n+k.parity+ahead <= 255 && ahead < 100; ahead++ {
			for beside := range k.parity / 2 { // turned at places that it has, too
				if beside > 2 && beside < k.parity/2-1 {
					continue
				}
				data := append(make([]byte, ahead), someBytes(r, k.n)...)
				data[0] = byte(1 + r.Intn(255))
				longer, _ := c.Encode(data)
				turned, _ := spoilt(r, longer[ahead:], beside, 0)
				wantDecode(t, c, turned, nil, nil, nil, api.ErrLost)
				turned = append(make([]byte, ahead), turned...)
				if places := differs(turned, longer); 2*len(places) <= k.parity {
					wantDecode(t, c, turned, nil, data, places, api.OK)
				}
			}
		}
	}
}

// P1104: lost places that are none.
func TestWrongLostPlaces(t *testing.T) {
	for _, k := range someCodes {
		c := code(t, k.parity, k.first)
		word := make([]byte, k.parity+1)
		n := len(word)
		for _, lost := range [][]int{
			{-1}, {n}, {n + 1}, {255}, {256}, {math.MaxInt}, {math.MinInt}, {1 << 32}, {-1 << 32}, {256 + 1}, {-255},
			{0, -1}, {0, n}, {0, 0}, {n - 1, n - 1}, {1, 0, 1}, {0, 1, 0}, {-1, -1}, {n, n},
			append(slices.Repeat([]int{0}, n), 1), slices.Repeat([]int{1}, 1000), append(all(n), 0), append(all(n), n), append(all(n), -1),
		} {
			wantDecode(t, c, word, lost, nil, nil, api.ErrArg)
		}
		wantDecode(t, c, word, all(n), nil, nil, api.ErrLost)
	}
	c := code(t, 4, 1)
	wantDecode(t, c, make([]byte, 255), []int{254, 0}, make([]byte, 251), nil, api.OK)
	wantDecode(t, c, make([]byte, 255), []int{255}, nil, nil, api.ErrArg)
}

// all: the places of a word of n bytes.
func all(n int) []int {
	var list []int
	for p := range n {
		list = append(list, p)
	}
	return list
}

// Where several errors apply, the one that the chapter names first.
func TestWhichErrorIsFirst(t *testing.T) {
	c := code(t, 4, 1)
	wantDecode(t, c, make([]byte, 256), []int{-1}, nil, nil, api.ErrBig)
	wantDecode(t, c, make([]byte, 256), all(256), nil, nil, api.ErrBig)
	wantDecode(t, c, make([]byte, 300), []int{299, 299}, nil, nil, api.ErrBig)
	wantDecode(t, c, make([]byte, 4), all(4), nil, nil, api.ErrArg)
	wantDecode(t, c, make([]byte, 8), []int{0, 1, 2, 3, 4, 4}, nil, nil, api.ErrArg)
	wantDecode(t, c, make([]byte, 8), []int{0, 1, 2, 3, 4, 8}, nil, nil, api.ErrArg)
	wantDecode(t, c, []byte{1, 2, 3, 4, 5, 6, 7, 8}, []int{8}, nil, nil, api.ErrArg)
}

// ErrNil of a nil code, ahead of all other errors.
func TestNilCode(t *testing.T) {
	var c *rs.Code
	if g := c.Generator(); len(g) != 0 {
		t.Errorf("Generator: % x", g)
	}
	for _, n := range []int{0, 1, 3, 255, 256, 1000} {
		given := make([]byte, n)
		word, e := c.Encode(given)
		if word != nil || e != api.ErrNil {
			t.Errorf("Encode of %d bytes: % x, %v", n, word, e)
		}
		s, e := c.Syndromes(given)
		if s != nil || e != api.ErrNil {
			t.Errorf("Syndromes of %d bytes: % x, %v", n, s, e)
		}
		if c.Good(given) {
			t.Errorf("Good of %d bytes", n)
		}
		for _, lost := range [][]int{nil, {0}, {-1}, {0, 0}} {
			wantDecode(t, c, given, lost, nil, nil, api.ErrNil)
		}
	}
}

// P1105: of some words by hand: places 0 and 2 of three belong to x to the 2 and to 1.
func TestLocator(t *testing.T) {
	c := code(t, 2, 0)
	for _, k := range []struct {
		word []byte
		lost []int
		want []byte
	}{
		{[]byte{1, 3, 2}, nil, []byte{1}},
		{[]byte{0, 3, 2}, nil, []byte{1, 4}},
		{[]byte{1, 3, 3}, nil, []byte{1, 1}},
		{[]byte{1, 0, 2}, nil, []byte{1, 2}},
		{[]byte{1, 3, 2}, []int{0}, []byte{1, 4}},
		{[]byte{1, 3, 2}, []int{2, 0}, []byte{1, 5, 4}},
		{[]byte{9, 3, 9}, []int{0, 2}, []byte{1, 5, 4}},
		{[]byte{9, 3, 2}, []int{0, 2}, []byte{1, 5, 4}},
	} {
		got, e := c.Locator(k.word, k.lost)
		wantBytes(t, fmt.Sprint("Locator of ", k.word, k.lost), got, k.want)
		wantError(t, "Locator", e, api.OK)
	}
}

// Rule 5: what went ahead is not seen.
func TestAnswersHangOnTheirArguments(t *testing.T) {
	c, other := code(t, 4, 1), code(t, 4, 1)
	r := rand.New(rand.NewSource(29))
	for range 200 {
		word := someBytes(r, 5+r.Intn(251))
		lost := r.Perm(len(word))[:r.Intn(6)]
		data, places, e := c.Decode(word, lost)
		again, at, f := code(t, 4, 1).Decode(word, lost)
		more, in, g := other.Decode(word, lost)
		if !bytes.Equal(data, again) || !slices.Equal(places, at) || e != f || !bytes.Equal(data, more) || !slices.Equal(places, in) || e != g {
			t.Fatalf("Decode(% x, %v) is not the same at each call", word, lost)
		}
	}
}
