package primes_test

import (
	"crypto/sha256"
	"crypto/sha512"
	"encoding"
	"encoding/binary"
	"fmt"
	"math"
	"math/big"
	"math/rand"
	"slices"
	"testing"

	"orrery/api"
	"orrery/primes"
)

const most = 1 << 20 // the greatest number that Upto, Totient and Order take

// eighty: the first eighty primes, typed.
var eighty = []uint32{
	2, 3, 5, 7, 11, 13, 17, 19, 23, 29, 31, 37, 41, 43, 47, 53, 59, 61, 67, 71,
	73, 79, 83, 89, 97, 101, 103, 107, 109, 113, 127, 131, 137, 139, 149, 151, 157, 163, 167, 173,
	179, 181, 191, 193, 197, 199, 211, 223, 227, 229, 233, 239, 241, 251, 257, 263, 269, 271, 277, 281,
	283, 293, 307, 311, 313, 317, 331, 337, 347, 349, 353, 359, 367, 373, 379, 383, 389, 397, 401, 409,
}

// edges32: numbers at the ends of the range, at powers of two, at squares of primes.
func edges32() []uint32 {
	var list []uint32
	for i := range 32 {
		for d := uint32(0); d <= 4; d++ {
			list = append(list, 1<<i-2+d)
		}
	}
	for _, p := range []uint32{2, 3, 5, 251, 257, 65519, 65521} {
		list = append(list, p*p-1, p*p, p*p+1)
	}
	return append(list, 65521*65537, 65519*65521, 3*1431655751, math.MaxUint32-4, math.MaxUint32)
}

// knownPrime: the library's test makes no mistake below 2^64.
func knownPrime(n uint32) bool { return big.NewInt(int64(n)).ProbablyPrime(0) }

// spoil: writes over a list and its spare room.
func spoil[T uint32 | uint64 | int](list []T) {
	list = list[:cap(list)]
	for i := range list {
		list[i] = 77
	}
}

func TestWordsAndRule(t *testing.T) {
	upto, e := primes.Upto(409)
	if e != api.OK || len(upto) != 80 {
		t.Fatalf("Upto(409): %d primes, %v", len(upto), e)
	}
	for _, c := range []struct {
		what string
		got  []uint32
	}{{"Words", primes.Words()}, {"Rule", primes.Rule()}} {
		if !slices.Equal(c.got, eighty) {
			t.Errorf("%s: %v", c.what, c.got)
		}
		for i, p := range c.got {
			if i < len(upto) && int(p) != upto[i] {
				t.Errorf("%s: word %d is %d, of Upto(409) %d", c.what, i, p, upto[i])
			}
		}
	}
}

func TestListsAreTheCallers(t *testing.T) {
	factors := func() []uint32 { return primes.Factors(math.MaxUint32) }
	upto := func() []int { list, _ := primes.Upto(1000); return list }
	for what, call := range map[string]func() []uint32{"Words": primes.Words, "Rule": primes.Rule, "Factors": factors} {
		one, two := call(), call()
		want := slices.Clone(one)
		spoil(one)
		if !slices.Equal(two, want) || !slices.Equal(call(), want) {
			t.Errorf("%s: another list changes with the one that was handed out", what)
		}
	}
	one, two := upto(), upto()
	want := slices.Clone(one)
	spoil(one)
	if !slices.Equal(two, want) || !slices.Equal(upto(), want) {
		t.Error("Upto: another list changes with the one that was handed out")
	}
	if !slices.Equal(primes.Words(), eighty) || !slices.Equal(primes.Rule(), eighty) {
		t.Error("the table changes with a list that was handed out")
	}
}

func TestConstantsAreTheCallers(t *testing.T) {
	for _, kind := range []int{224, 256, 384, 512} {
		k, h, _ := primes.Constants(kind)
		wantK, wantH := slices.Clone(k), slices.Clone(h)
		spoil(k)
		if !slices.Equal(h, wantH) {
			t.Errorf("Constants(%d): h changes with k", kind)
		}
		spoil(h)
		k, h, _ = primes.Constants(kind)
		spoil(h)
		if !slices.Equal(k, wantK) {
			t.Errorf("Constants(%d): k changes with what was handed out", kind)
		}
		if k, h, _ = primes.Constants(kind); !slices.Equal(k, wantK) || !slices.Equal(h, wantH) {
			t.Errorf("Constants(%d): changes with what was handed out", kind)
		}
	}
	if !slices.Equal(primes.Words(), eighty) || !slices.Equal(primes.Rule(), eighty) {
		t.Error("the table changes with a list of Constants")
	}
}

func TestIs(t *testing.T) {
	for n, want := range map[uint32]bool{0: false, 1: false, 2: true, 3: true, 4: false, 9: false, 4294836225: false, 4293001441: false, 4294967279: true, 4294967291: true, 4294967293: false, 4294967295: false} {
		if primes.Is(n) != want {
			t.Errorf("Is(%d) is not %v", n, want)
		}
	}
	list := edges32()
	for n := range uint32(20000) {
		list = append(list, n, math.MaxUint32-n/100)
	}
	r := rand.New(rand.NewSource(6))
	for range 2000 {
		list = append(list, r.Uint32())
	}
	for _, n := range list {
		if primes.Is(n) != knownPrime(n) {
			t.Errorf("Is(%d): %v", n, primes.Is(n))
		}
	}
}

// sieved: all primes not above n.
func sieved(n int) []int {
	crossed := make([]bool, n+1)
	var list []int
	for p := 2; p <= n; p++ {
		if !crossed[p] {
			list = append(list, p)
		}
		for m := 2 * p; m <= n && !crossed[p]; m += p {
			crossed[m] = true
		}
	}
	return list
}

func TestUpto(t *testing.T) {
	all := sieved(most)
	until := func(n int) []int {
		i, _ := slices.BinarySearch(all, n+1)
		return all[:i]
	}
	list := []int{math.MinInt, -most, -5, -1, 10, 408, 409, 410, 1009, 1013*1013 - 1, 1013 * 1013, 1021 * 1021, 1048573, most - 2, most - 1, most}
	for n := range 1200 {
		list = append(list, n)
	}
	for _, n := range list {
		if got, e := primes.Upto(n); e != api.OK || !slices.Equal(got, until(n)) {
			t.Errorf("Upto(%d): %d primes, %v; not %d", n, len(got), e, len(until(n)))
		}
	}
	if len(all) != 82025 {
		t.Errorf("%d primes up to 2^20", len(all))
	}
	for _, n := range []int{most + 1, most + 2, 1 << 31, 1 << 32, 1<<32 + 10, math.MaxInt} {
		if got, e := primes.Upto(n); e != api.ErrBig || len(got) != 0 {
			t.Errorf("Upto(%d): %v, %v", n, got, e)
		}
	}
}

func TestFactors(t *testing.T) {
	for _, c := range []struct {
		n    uint32
		want []uint32
	}{
		{0, nil}, {1, nil}, {2, []uint32{2}}, {4, []uint32{2, 2}}, {360, []uint32{2, 2, 2, 3, 3, 5}},
		{4294967291, []uint32{4294967291}}, {math.MaxUint32, []uint32{3, 5, 17, 257, 65537}},
		{65521 * 65521, []uint32{65521, 65521}}, {2 * 2147483647, []uint32{2, 2147483647}},
		{1 << 31, slices.Repeat([]uint32{2}, 31)}, {3486784401, slices.Repeat([]uint32{3}, 20)},
	} {
		if got := primes.Factors(c.n); !slices.Equal(got, c.want) {
			t.Errorf("Factors(%d): %v", c.n, got)
		}
	}
}

func TestFactorsHaveTheProduct(t *testing.T) {
	list := edges32()
	for n := range uint32(20000) {
		list = append(list, n)
	}
	r := rand.New(rand.NewSource(62))
	for range 2000 {
		list = append(list, r.Uint32()>>r.Intn(32))
	}
	for _, n := range list {
		factors, product := primes.Factors(n), uint64(1)
		for _, p := range factors {
			product *= uint64(p)
			if !knownPrime(p) {
				t.Errorf("Factors(%d): %v", n, factors)
			}
		}
		if n > 0 && product != uint64(n) || n == 0 && len(factors) > 0 || !slices.IsSorted(factors) {
			t.Errorf("Factors(%d): %v", n, factors)
		}
	}
}

// common: the greatest divisor that two numbers have in common, by trial.
func common(a, n uint32) uint32 {
	for d := min(a, n); d > 1; d-- {
		if a%d == 0 && n%d == 0 {
			return d
		}
	}
	if a == 0 || n == 0 {
		return max(a, n)
	}
	return 1
}

func TestTotient(t *testing.T) {
	for n := range uint32(300) {
		count := uint32(0)
		for m := uint32(1); m <= n; m++ {
			if common(m, n) == 1 {
				count++
			}
		}
		if got, e := primes.Totient(n); got != count || e != api.OK {
			t.Errorf("Totient(%d): %d, %v; not %d", n, got, e, count)
		}
	}
	for n, want := range map[uint32]uint32{0: 0, 1: 1, 2: 1, 12: 4, 510510: 92160, 1048573: 1048572, most - 1: 480000, most: 1 << 19, 1013 * 1013: 1013 * 1012, 1594323 / 3: 354294} {
		if got, e := primes.Totient(n); got != want || e != api.OK {
			t.Errorf("Totient(%d): %d, %v; not %d", n, got, e, want)
		}
	}
	for _, n := range []uint32{most + 1, most + 2, 2000000, 1 << 21, 1 << 31, math.MaxUint32} {
		if got, e := primes.Totient(n); got != 0 || e != api.ErrBig {
			t.Errorf("Totient(%d): %d, %v", n, got, e)
		}
	}
}

// leaves: what a to the power of m leaves modulo n.
func leaves(a, m, n uint32) uint64 {
	x := new(big.Int).Exp(big.NewInt(int64(a)), big.NewInt(int64(m)), big.NewInt(int64(n)))
	return x.Uint64()
}

func TestOrderOfSmallNumbers(t *testing.T) {
	for n := uint32(0); n <= 60; n++ {
		for _, up := range []uint32{0, n * 1000, n * (math.MaxUint32/max(n, 1) - 2)} {
			for a := up; a <= up+n+2; a++ {
				got, e := primes.Order(a, n)
				if n == 0 || common(a%n, n) > 1 {
					if got != 0 || e != api.ErrArg {
						t.Errorf("Order(%d, %d): %d, %v", a, n, got, e)
					}
					continue
				}
				want := uint32(1)
				for leaves(a, want, n) != uint64(1%n) {
					want++
				}
				if got != want || e != api.OK {
					t.Errorf("Order(%d, %d): %d, %v; not %d", a, n, got, e, want)
				}
			}
		}
	}
}

func TestOrderAtTheEdges(t *testing.T) {
	for _, c := range []struct {
		a, n, want uint32
		e          api.Errno
	}{
		{2, 7, 3, api.OK}, {9, 1, 1, api.OK}, {0, 1, 1, api.OK}, {math.MaxUint32, 1, 1, api.OK}, {1, most, 1, api.OK},
		{3, most, 1 << 18, api.OK}, {math.MaxUint32, most, 2, api.OK}, {2, most - 1, 20, api.OK}, {2, 1048573, 1048572, api.OK},
		{2, 4, 0, api.ErrArg}, {0, 0, 0, api.ErrArg}, {1, 0, 0, api.ErrArg}, {math.MaxUint32, 0, 0, api.ErrArg}, {0, 2, 0, api.ErrArg},
		{0, most, 0, api.ErrArg}, {most, most, 0, api.ErrArg}, {6, most, 0, api.ErrArg}, {1 << 31, most, 0, api.ErrArg}, {1048573 * 4096, 1048573, 0, api.ErrArg},
		{1, most + 1, 0, api.ErrBig}, {1, 2000000, 0, api.ErrBig}, {2, most + 2, 0, api.ErrBig}, {0, 1 << 31, 0, api.ErrBig}, {1, math.MaxUint32, 0, api.ErrBig},
	} {
		if got, e := primes.Order(c.a, c.n); got != c.want || e != c.e {
			t.Errorf("Order(%d, %d): %d, %v; not %d, %v", c.a, c.n, got, e, c.want, c.e)
		}
	}
}

func TestOrderIsEulers(t *testing.T) {
	r := rand.New(rand.NewSource(64))
	for range 200 {
		a, n := r.Uint32(), r.Uint32()%most+1
		order, e := primes.Order(a, n)
		if e == api.ErrArg {
			continue
		}
		count, _ := primes.Totient(n)
		if e != api.OK || count%order != 0 {
			t.Errorf("Order(%d, %d): %d, %v, of Totient %d", a, n, order, e, count)
			continue
		}
		for _, m := range []uint32{0, 1, order - 1, order, order + 1, 2 * order, 3*order + 1, count, r.Uint32() % 4096 * order, r.Uint32()} {
			if leaves(a, m, n) == uint64(1%n) != (m%order == 0) {
				t.Errorf("%d to the %d modulo %d, of the order %d", a, m, n, order)
			}
		}
		for _, p := range primes.Factors(order) { // no lesser one will do
			if leaves(a, order/p, n) == uint64(1%n) {
				t.Errorf("Order(%d, %d): %d, but %d does too", a, n, order, order/p)
			}
		}
	}
}

// power: in whole numbers of any width.
func power(x *big.Int, k int) *big.Int { return new(big.Int).Exp(x, big.NewInt(int64(k)), nil) }

// isRoot: is x the greatest whose k-th power is not above v?
func isRoot(x *big.Int, k int, v *big.Int) bool {
	return power(x, k).Cmp(v) <= 0 && power(new(big.Int).Add(x, big.NewInt(1)), k).Cmp(v) > 0
}

func TestWholeRoots(t *testing.T) {
	for _, c := range []struct{ v, sqrt, cbrt uint64 }{
		{0, 0, 0}, {1, 1, 1}, {3, 1, 1}, {4, 2, 1}, {7, 2, 1}, {8, 2, 2}, {26, 5, 2}, {27, 5, 3}, {1 << 62, 1 << 31, 1664510}, {1<<63 - 1, 3037000499, 2097151}, {1 << 63, 3037000499, 1 << 21},
		{math.MaxUint64, 4294967295, 2642245},
	} {
		if s, b := primes.Sqrt(c.v), primes.Cbrt(c.v); s != c.sqrt || b != c.cbrt {
			t.Errorf("roots of %d: %d, %d", c.v, s, b)
		}
	}
}

func TestWholeRootsInTheirMeasure(t *testing.T) {
	list := []uint64{0, 1, 2, 3, math.MaxUint64, math.MaxUint64 - 1}
	r := rand.New(rand.NewSource(63))
	for i := range 3000 {
		s, c := uint64(i), uint64(i)
		if i > 1000 {
			s, c = r.Uint64()>>32, r.Uint64()%2642246
		}
		list = append(list, s*s, s*s-1, s*s+1, c*c*c, c*c*c-1, c*c*c+1, r.Uint64()>>r.Intn(64))
	}
	for _, x := range []uint64{4294967295, 4294967294, 65536, 65535} {
		list = append(list, x*x-1, x*x, x*x+1)
	}
	for _, x := range []uint64{2642245, 2642244, 1 << 21, 1<<21 - 1} {
		list = append(list, x*x*x-1, x*x*x, x*x*x+1)
	}
	for _, v := range list {
		b := new(big.Int).SetUint64(v)
		if s := primes.Sqrt(v); !isRoot(new(big.Int).SetUint64(s), 2, b) {
			t.Errorf("Sqrt(%d): %d", v, s)
		}
		if c := primes.Cbrt(v); !isRoot(new(big.Int).SetUint64(c), 3, b) {
			t.Errorf("Cbrt(%d): %d", v, c)
		}
	}
}

func TestRoot(t *testing.T) {
	for _, c := range []struct {
		p       uint32
		k, bits int
		whole   uint32
		part    uint64
	}{
		{2, 2, 32, 1, 0x6a09e667}, {2, 3, 32, 1, 0x428a2f98}, {9, 2, 8, 3, 0}, {27, 3, 64, 3, 0}, {0, 2, 64, 0, 0}, {0, 3, 1, 0, 0}, {1, 3, 64, 1, 0},
		{2, 2, 1, 1, 0}, {3, 2, 1, 1, 1}, {4, 3, 1, 1, 1}, {2, 2, 64, 1, 0x6a09e667f3bcc908}, {math.MaxUint32, 2, 64, 65535, 0xffff7fffffffdfff}, {math.MaxUint32, 3, 1, 1625, 0},
	} {
		if whole, part, e := primes.Root(c.p, c.k, c.bits); whole != c.whole || part != c.part || e != api.OK {
			t.Errorf("Root(%d, %d, %d): %d, %x, %v; not %d, %x", c.p, c.k, c.bits, whole, part, e, c.whole, c.part)
		}
	}
}

func TestRootInItsMeasure(t *testing.T) {
	list := append([]uint32{0, 1, 4, 8, 9, 27, 64, math.MaxUint32, math.MaxUint32 - 1, 65535 * 65535, 65535*65535 - 1, 1625 * 1625 * 1625, 1625*1625*1625 - 1, 1 << 31}, eighty...)
	r := rand.New(rand.NewSource(603))
	for range 20 {
		list = append(list, r.Uint32())
	}
	for _, p := range list {
		for _, k := range []int{2, 3} {
			for _, bits := range []int{1, 2, 8, 31, 32, 33, 63, 64} {
				whole, part, e := primes.Root(p, k, bits)
				x := new(big.Int).Lsh(big.NewInt(int64(whole)), uint(bits))
				x.Add(x, new(big.Int).SetUint64(part))
				v := new(big.Int).Lsh(big.NewInt(int64(p)), uint(k*bits))
				if e != api.OK || bits < 64 && part>>bits != 0 || !isRoot(x, k, v) {
					t.Errorf("Root(%d, %d, %d): %d, %x, %v", p, k, bits, whole, part, e)
				}
			}
		}
	}
}

func TestRootOfWrongArguments(t *testing.T) {
	for _, c := range []struct{ k, bits int }{
		{1, 32}, {0, 32}, {4, 32}, {-1, 32}, {-2, 32}, {-3, 32}, {5, 64}, {6, 1}, {math.MinInt, 32}, {math.MaxInt, 32}, {1<<32 + 2, 32},
		{2, 0}, {2, 65}, {2, -1}, {3, 0}, {3, 65}, {3, -1}, {2, math.MinInt}, {3, math.MaxInt}, {2, 1<<32 + 32}, {3, 256 + 32}, {2, 128}, {1, 0},
	} {
		for _, p := range []uint32{0, 1, 2, math.MaxUint32} {
			if whole, part, e := primes.Root(p, c.k, c.bits); whole != 0 || part != 0 || e != api.ErrArg {
				t.Errorf("Root(%d, %d, %d): %d, %x, %v", p, c.k, c.bits, whole, part, e)
			}
		}
	}
}

func TestConstants(t *testing.T) {
	for _, c := range []struct {
		kind, words                    int
		firstK, lastK, firstH, lastH   uint64
		bits, firstPrime, hBits, shift int
	}{
		{224, 64, 0x428a2f98, 0xc67178f2, 0xc1059ed8, 0xbefa4fa4, 32, 8, 64, 32},
		{256, 64, 0x428a2f98, 0xc67178f2, 0x6a09e667, 0x5be0cd19, 32, 0, 32, 32},
		{384, 80, 0x428a2f98d728ae22, 0x6c44198c4a475817, 0xcbbb9d5dc1059ed8, 0x47b5481dbefa4fa4, 64, 8, 64, 0},
		{512, 80, 0x428a2f98d728ae22, 0x6c44198c4a475817, 0x6a09e667f3bcc908, 0x5be0cd19137e2179, 64, 0, 64, 0},
	} {
		k, h, e := primes.Constants(c.kind)
		if e != api.OK || len(k) != c.words || len(h) != 8 {
			t.Fatalf("Constants(%d): %d and %d words, %v", c.kind, len(k), len(h), e)
		}
		if k[0] != c.firstK || k[c.words-1] != c.lastK || h[0] != c.firstH || h[7] != c.lastH {
			t.Errorf("Constants(%d): %x, %x", c.kind, k, h)
		}
		for i, got := range k {
			if _, part, _ := primes.Root(eighty[i], 3, c.bits); got != part {
				t.Errorf("Constants(%d): k[%d] is %x, not %x", c.kind, i, got, part)
			}
		}
		for i, got := range h {
			_, part, _ := primes.Root(eighty[c.firstPrime+i], 2, c.hBits)
			if want := part << c.shift >> c.shift; got != want {
				t.Errorf("Constants(%d): h[%d] is %x, not %x", c.kind, i, got, want)
			}
		}
	}
}

// begun: the words with which a digest of the library begins, as its state is written: a mark of four bytes, then they.
func begun(t *testing.T, digest any, size int) []uint64 {
	state, err := digest.(encoding.BinaryMarshaler).MarshalBinary()
	if err != nil {
		t.Fatal(err)
	}
	words := make([]uint64, 8)
	for i := range words {
		wide := make([]byte, 8)
		copy(wide[8-size:], state[4+i*size:4+i*size+size])
		words[i] = binary.BigEndian.Uint64(wide)
	}
	return words
}

func TestConstantsAreTheLibrarys(t *testing.T) {
	for _, c := range []struct {
		kind   int
		digest any
		size   int
	}{{224, sha256.New224(), 4}, {256, sha256.New(), 4}, {384, sha512.New384(), 8}, {512, sha512.New(), 8}} {
		_, h, _ := primes.Constants(c.kind)
		if want := begun(t, c.digest, c.size); fmt.Sprintf("%x", h) != fmt.Sprintf("%x", want) {
			t.Errorf("Constants(%d): h %x, not %x", c.kind, h, want)
		}
	}
}

func TestConstantsOfAnyOtherKind(t *testing.T) {
	for _, kind := range []int{0, 1, -1, 160, 223, 225, 255, 257, 383, 385, 511, 513, 1024, -224, -256, -384, -512, 1<<32 + 256, 1<<16 + 512, math.MinInt, math.MinInt + 256, math.MaxInt} {
		if k, h, e := primes.Constants(kind); len(k) != 0 || len(h) != 0 || e != api.ErrArg {
			t.Errorf("Constants(%d): %d and %d words, %v", kind, len(k), len(h), e)
		}
	}
}
