package sbox_test

import (
	"bytes"
	"crypto/aes"
	"math"
	mathbits "math/bits"
	"math/rand"
	"slices"
	"testing"

	"orrery/api"
	"orrery/sbox"
)

// times: in the field of 0x11b, by the whole product and a long division.
func times(a, b byte) byte {
	p := 0
	for i := range 8 {
		if b&(1<<i) != 0 {
			p ^= int(a) << i
		}
	}
	for i := 14; i >= 8; i-- {
		if p&(1<<i) != 0 {
			p ^= 0x11b << (i - 8)
		}
	}
	return byte(p)
}

// affine: bit by bit, as FIPS 197 tells it.
func affine(b byte) byte {
	var sum byte
	for i := range 8 {
		bit := byte(0x63) >> i & 1
		for _, turn := range []int{0, 4, 5, 6, 7} {
			bit ^= b >> ((i + turn) % 8) & 1
		}
		sum |= bit << i
	}
	return sum
}

// box: the substitution, its inverses found by trying.
func box() []byte {
	t := make([]byte, 256)
	t[0] = affine(0)
	for a := 1; a < 256; a++ {
		for b := 1; b < 256; b++ {
			if times(byte(a), byte(b)) == 1 {
				t[a] = affine(byte(b))
			}
		}
	}
	return t
}

// tableOf: t[x] is what f tells of x.
func tableOf(f func(x byte) byte) []byte {
	t := make([]byte, 256)
	for x := range t {
		t[x] = f(byte(x))
	}
	return t
}

func same(x byte) byte { return x }

// mingled: tables of chance, the first half of them with every byte once.
func mingled(n int) [][]byte {
	r := rand.New(rand.NewSource(7))
	list := make([][]byte, n)
	for i := range list {
		list[i] = tableOf(func(byte) byte { return byte(r.Intn(256)) })
		if i < n/2 {
			for x, y := range r.Perm(256) {
				list[i][x] = byte(y)
			}
		}
	}
	return list
}

// tables: the ones that the promises name, and some of chance.
func tables() [][]byte {
	return append(mingled(4), box(), tableOf(same), tableOf(sbox.Unsub), make([]byte, 256), tableOf(func(byte) byte { return 0xff }),
		tableOf(func(x byte) byte { return x + 1 }), tableOf(func(x byte) byte { return x & (x >> 1) }))
}

// wrongTables: what has not 256 bytes, with room for them behind it.
func wrongTables() map[string][]byte {
	roomy := make([]byte, 512)
	return map[string][]byte{"nil": nil, "empty": {}, "one": roomy[:1], "255": roomy[:255], "257": roomy[:257], "512": roomy, "roomy and empty": roomy[:0]}
}

func parity(b byte) int { return mathbits.OnesCount8(b) & 1 }

func TestAffine(t *testing.T) {
	for b := range 256 {
		if got, want := sbox.Affine(byte(b)), affine(byte(b)); got != want {
			t.Errorf("Affine(%#x): %#x, not %#x", b, got, want)
		}
	}
	if got := sbox.Affine(0); got != 0x63 {
		t.Errorf("Affine(0): %#x", got)
	}
}

func TestSub(t *testing.T) {
	for b, want := range box() {
		if got := sbox.Sub(byte(b)); got != want {
			t.Errorf("Sub(%#x): %#x, not %#x", b, got, want)
		}
		if got := sbox.Unsub(want); got != byte(b) {
			t.Errorf("Unsub(%#x): %#x, not %#x", want, got, b)
		}
	}
	first := []byte{0x63, 0x7c, 0x77, 0x7b, 0xf2, 0x6b, 0x6f, 0xc5, 0x30, 0x01, 0x67, 0x2b, 0xfe, 0xd7, 0xab, 0x76}
	if got := tableOf(sbox.Sub)[:16]; !bytes.Equal(got, first) {
		t.Errorf("Sub of 0 to 15: % x, not % x", got, first)
	}
	first = []byte{0x52, 0x09, 0x6a, 0xd5, 0x30, 0x36, 0xa5, 0x38, 0xbf, 0x40, 0xa3, 0x9e, 0x81, 0xf3, 0xd7, 0xfb}
	if got := tableOf(sbox.Unsub)[:16]; !bytes.Equal(got, first) {
		t.Errorf("Unsub of 0 to 15: % x, not % x", got, first)
	}
	if got := sbox.Sub(0x53); got != 0xed {
		t.Errorf("Sub(0x53): %#x", got)
	}
}

// columns: those of one byte at each place, those of one byte four times, and some of chance.
func columns() [][4]byte {
	r := rand.New(rand.NewSource(3))
	list := [][4]byte{{}, {0xdb, 0x13, 0x53, 0x45}, {0xf2, 0x0a, 0x22, 0x5c}, {1, 0, 1, 0}, {0, 1, 0, 1}, {1, 1, 1, 0}, {0, 1, 1, 1}, {1, 0, 1, 1}, {1, 1, 0, 1}, {1, 2, 1, 2}}
	for b := 1; b < 256; b++ {
		c := byte(b)
		list = append(list, [4]byte{c}, [4]byte{0, c}, [4]byte{0, 0, c}, [4]byte{0, 0, 0, c}, [4]byte{c, c, c, c}, [4]byte{c, c, c, 0})
	}
	for range 2000 {
		v := r.Uint32()
		list = append(list, [4]byte{byte(v), byte(v >> 8), byte(v >> 16), byte(v >> 24)})
	}
	return list
}

func TestMix(t *testing.T) {
	for _, c := range columns() {
		var forth, back [4]byte
		for i := range 4 {
			a, b, d, e := c[i], c[(i+1)%4], c[(i+2)%4], c[(i+3)%4]
			forth[i] = times(2, a) ^ times(3, b) ^ d ^ e
			back[i] = times(14, a) ^ times(11, b) ^ times(13, d) ^ times(9, e)
		}
		if got := sbox.Mix(c); got != forth {
			t.Errorf("Mix(% x): % x, not % x", c, got, forth)
		}
		if got := sbox.Unmix(c); got != back {
			t.Errorf("Unmix(% x): % x, not % x", c, got, back)
		}
		if there, here := sbox.Unmix(sbox.Mix(c)), sbox.Mix(sbox.Unmix(c)); there != c || here != c {
			t.Errorf("% x: Unmix of Mix is % x, Mix of Unmix is % x", c, there, here)
		}
	}
	for _, c := range []struct{ col, want [4]byte }{
		{[4]byte{0xdb, 0x13, 0x53, 0x45}, [4]byte{0x8e, 0x4d, 0xa1, 0xbc}},
		{[4]byte{0xf2, 0x0a, 0x22, 0x5c}, [4]byte{0x9f, 0xdc, 0x58, 0x9d}},
		{[4]byte{1, 1, 1, 1}, [4]byte{1, 1, 1, 1}},
		{[4]byte{0xd4, 0xd4, 0xd4, 0xd5}, [4]byte{0xd5, 0xd5, 0xd7, 0xd6}},
		{[4]byte{0x2d, 0x26, 0x31, 0x4c}, [4]byte{0x4d, 0x7e, 0xbd, 0xf8}},
	} {
		if got := sbox.Mix(c.col); got != c.want {
			t.Errorf("Mix(% x): % x, not % x", c.col, got, c.want)
		}
		if got := sbox.Unmix(c.want); got != c.col {
			t.Errorf("Unmix(% x): % x, not % x", c.want, got, c.col)
		}
	}
}

func wordOf(c [4]byte) uint32 {
	return uint32(c[0])<<24 | uint32(c[1])<<16 | uint32(c[2])<<8 | uint32(c[3])
}

func TestColumn(t *testing.T) {
	for b, s := range box() {
		want := wordOf([4]byte{times(2, s), s, s, times(3, s)})
		if got := sbox.Column(byte(b)); got != want {
			t.Errorf("Column(%#x): %#x, not %#x", b, got, want)
		}
	}
	if got := sbox.Column(0); got != 0xc66363a5 {
		t.Errorf("Column(0): %#x", got)
	}
	if got := sbox.Column(0x52); got != 0 {
		t.Errorf("Column(0x52): %#x", got)
	}
}

func TestFourColumnsAreAMixedOne(t *testing.T) {
	for _, c := range columns() {
		var subs [4]byte
		sum := uint32(0)
		for i, b := range c {
			subs[i] = sbox.Sub(b)
			sum ^= mathbits.RotateLeft32(sbox.Column(b), -8*i)
		}
		if want := wordOf(sbox.Mix(subs)); sum != want {
			t.Errorf("the columns of % x: %#x, not %#x", c, sum, want)
		}
	}
}

func TestRound(t *testing.T) {
	want := byte(1)
	for n := 1; n <= 1000; n++ {
		if got := sbox.Round(n); got != want {
			t.Errorf("Round(%d): %#x, not %#x", n, got, want)
		}
		want = times(want, 2)
	}
	for n, want := range map[int]byte{1: 1, 2: 2, 8: 0x80, 9: 0x1b, 10: 0x36, 11: 0x6c, 51: 0x8d, 52: 1, 53: 2, 102: 0x8d, 103: 1, 255: 0x8d, 256: 1,
		0: 0, -1: 0, -2: 0, -50: 0, -51: 0, -52: 0, math.MinInt32: 0, math.MinInt + 1: 0, math.MinInt: 0} {
		if got := sbox.Round(n); got != want {
			t.Errorf("Round(%d): %#x, not %#x", n, got, want)
		}
	}
	for _, n := range []int{math.MaxInt, math.MaxInt - 1, math.MaxInt - 50, 1 << 31, 1 << 32, 1 << 62} {
		want := byte(1)
		for range (n - 1) % 255 { // to the 255 every element but 0 is 1
			want = times(want, 2)
		}
		if got := sbox.Round(n); got != want {
			t.Errorf("Round(%d): %#x, not %#x", n, got, want)
		}
	}
}

// differences: counted one by one.
func differences(table []byte, in, out byte) int {
	count := 0
	for x := range 256 {
		if table[x]^table[x^int(in)] == out {
			count++
		}
	}
	return count
}

func TestDifferences(t *testing.T) {
	for n, table := range tables() {
		for in := range 256 {
			sum := 0
			for out := range 256 {
				got, e := sbox.Differences(table, byte(in), byte(out))
				sum += got
				if e != api.OK || (in%17 == 0 || out%51 == 0) && got != differences(table, byte(in), byte(out)) {
					t.Fatalf("table %d: Differences(%d, %d): %d, %v", n, in, out, got, e)
				}
				if in == 0 && out > 0 && got != 0 {
					t.Errorf("table %d: Differences(0, %d): %d", n, out, got)
				}
			}
			if sum != 256 {
				t.Errorf("table %d: Differences(%d) of all out: %d together", n, in, sum)
			}
		}
		if got, e := sbox.Differences(table, 0, 0); got != 256 || e != api.OK {
			t.Errorf("table %d: Differences(0, 0): %d, %v", n, got, e)
		}
	}
	if got, e := sbox.Differences(tableOf(same), 5, 5); got != 256 || e != api.OK {
		t.Errorf("Differences(5, 5) of the table that leaves all: %d, %v", got, e)
	}
}

func TestUniform(t *testing.T) {
	for n, table := range tables() {
		want := 0
		for in := 1; in < 256; in++ {
			for out := range 256 {
				want = max(want, differences(table, byte(in), byte(out)))
			}
		}
		if got, e := sbox.Uniform(table); got != want || e != api.OK {
			t.Errorf("table %d: Uniform: %d, %v, not %d", n, got, e, want)
		}
	}
	for what, c := range map[string]struct {
		table []byte
		want  int
	}{"same": {tableOf(same), 256}, "constant": {bytes.Repeat([]byte{9}, 256), 256}, "Sub": {tableOf(sbox.Sub), 4}, "Unsub": {tableOf(sbox.Unsub), 4},
		"Sub, each byte twice": {tableOf(func(x byte) byte { return sbox.Sub(x | 1) }), 256}} { // the greatest is that of out 0 alone
		if got, e := sbox.Uniform(c.table); got != c.want || e != api.OK {
			t.Errorf("Uniform of %s: %d, %v, not %d", what, got, e, c.want)
		}
	}
}

// lines: counted one by one.
func lines(table []byte, in, out byte) int {
	count := 0
	for x := range 256 {
		if parity(byte(x)&in) == parity(table[x]&out) {
			count++
		}
	}
	return count - 128
}

func TestLines(t *testing.T) {
	for n, table := range tables() {
		for in := range 256 {
			for _, out := range []int{0, 1, 2, 0x80, 0xff, 0x5a, (in * 37) & 255, in} {
				if got, e := sbox.Lines(table, byte(in), byte(out)); got != lines(table, byte(in), byte(out)) || e != api.OK {
					t.Fatalf("table %d: Lines(%d, %d): %d, %v", n, in, out, got, e)
				}
			}
			want := 0
			if in == 0 {
				want = 128
			}
			if got, e := sbox.Lines(table, byte(in), 0); got != want || e != api.OK {
				t.Errorf("table %d: Lines(%d, 0): %d, %v, not %d", n, in, got, e, want)
			}
		}
	}
	if got, e := sbox.Lines(tableOf(same), 1, 1); got != 128 || e != api.OK {
		t.Errorf("Lines(1, 1) of the table that leaves all: %d, %v", got, e)
	}
	turned := tableOf(func(x byte) byte { return ^x })
	if got, e := sbox.Lines(turned, 1, 1); got != -128 || e != api.OK {
		t.Errorf("Lines(1, 1) of the table that turns all over: %d, %v", got, e)
	}
}

func TestLinear(t *testing.T) {
	for n, table := range tables() {
		want := 0
		for in := range 256 {
			for out := 1; out < 256; out++ {
				count := lines(table, byte(in), byte(out))
				want = max(want, count, -count)
			}
		}
		if got, e := sbox.Linear(table); got != want || e != api.OK {
			t.Errorf("table %d: Linear: %d, %v, not %d", n, got, e, want)
		}
	}
	fixed := map[string]func(byte) byte{ // its greatest line is that of in 0 and out 1 alone, once above and once below nothing
		"Sub without bit 0": func(x byte) byte { return sbox.Sub(x) &^ 1 },
		"Sub with bit 0":    func(x byte) byte { return sbox.Sub(x) | 1 },
	}
	for what, f := range fixed {
		if got, e := sbox.Linear(tableOf(f)); got != 128 || e != api.OK {
			t.Errorf("Linear of %s: %d, %v, not 128", what, got, e)
		}
	}
	for what, c := range map[string]struct {
		table []byte
		want  int
	}{"same": {tableOf(same), 128}, "constant 0": {make([]byte, 256), 128}, "constant": {bytes.Repeat([]byte{0xff}, 256), 128}, "Sub": {tableOf(sbox.Sub), 16}, "Unsub": {tableOf(sbox.Unsub), 16}} {
		if got, e := sbox.Linear(c.table); got != c.want || e != api.OK {
			t.Errorf("Linear of %s: %d, %v, not %d", what, got, e, c.want)
		}
	}
}

func TestCycles(t *testing.T) {
	ones := slices.Repeat([]int{1}, 256)
	twos := slices.Repeat([]int{2}, 128)
	swapped := tableOf(same)
	swapped[7], swapped[200] = 200, 7
	several := tableOf(same)
	copy(several[250:], []byte{251, 252, 250, 254, 253, 255})
	for what, c := range map[string]struct {
		table []byte
		want  []int
	}{
		"same":     {tableOf(same), ones},
		"next":     {tableOf(func(x byte) byte { return x + 1 }), []int{256}},
		"last":     {tableOf(func(x byte) byte { return x - 1 }), []int{256}},
		"swapped":  {swapped, append([]int{2}, ones[:254]...)},
		"turned":   {tableOf(func(x byte) byte { return ^x }), twos},
		"by three": {several, append([]int{3, 2}, ones[:251]...)},
		"by two":   {tableOf(func(x byte) byte { return x + 2 }), []int{128, 128}},
		"Sub":      {box(), []int{87, 81, 59, 27, 2}},
		"Unsub":    {tableOf(sbox.Unsub), []int{87, 81, 59, 27, 2}},
	} {
		if got, e := sbox.Cycles(c.table); !slices.Equal(got, c.want) || e != api.OK {
			t.Errorf("Cycles of %s: %v, %v, not %v", what, got, e, c.want)
		}
	}
}

// cyclesOf: how many cycles have each length: a byte is back for the first time after its cycle's length.
func cyclesOf(table []byte) map[int]int {
	counts := map[int]int{}
	for x := range table {
		length := 1
		for at := table[x]; at != byte(x); at = table[at] {
			length++
		}
		counts[length]++
	}
	for length := range counts {
		counts[length] /= length
	}
	return counts
}

func TestCyclesOfChance(t *testing.T) {
	list := mingled(40)
	for n, table := range list[:20] {
		got, e := sbox.Cycles(table)
		if e != api.OK || !slices.IsSortedFunc(got, func(a, b int) int { return b - a }) {
			t.Errorf("table %d: Cycles: %v, %v", n, got, e)
		}
		counts := cyclesOf(table)
		for _, length := range got {
			counts[length]--
		}
		for length, left := range counts {
			if left != 0 {
				t.Errorf("table %d: Cycles: %v: %d too few of %d", n, got, left, length)
			}
		}
	}
	for n, table := range list[20:] {
		if got, e := sbox.Cycles(table); len(got) != 0 || e != api.ErrArg {
			t.Errorf("table %d, which lacks bytes: Cycles: %v, %v", n, got, e)
		}
	}
}

func TestCyclesOfATableThatLacksAByte(t *testing.T) {
	for lacking := range 256 {
		table := tableOf(same)
		table[lacking] = byte(lacking + 1)
		if got, e := sbox.Cycles(table); len(got) != 0 || e != api.ErrArg {
			t.Errorf("Cycles of a table without %d: %v, %v", lacking, got, e)
		}
	}
	for _, table := range [][]byte{make([]byte, 256), bytes.Repeat([]byte{255}, 256)} {
		if got, e := sbox.Cycles(table); len(got) != 0 || e != api.ErrArg {
			t.Errorf("Cycles of a constant table: %v, %v", got, e)
		}
	}
}

// degree: a product's coefficient is the sum of the bit over all x whose bits are among its factors.
func degree(table []byte, bit int) int {
	most := 0
	for factors := range 256 {
		sum := byte(0)
		for x := range 256 {
			if x&^factors == 0 {
				sum ^= table[x] >> bit & 1
			}
		}
		if sum == 1 {
			most = max(most, mathbits.OnesCount8(byte(factors)))
		}
	}
	return most
}

func TestDegree(t *testing.T) {
	for n, table := range tables() {
		for bit := range 8 {
			if got, e := sbox.Degree(table, bit); got != degree(table, bit) || e != api.OK {
				t.Errorf("table %d: Degree(%d): %d, %v, not %d", n, bit, got, e, degree(table, bit))
			}
		}
	}
	all := tableOf(func(x byte) byte { return x / 255 << 7 }) // the product of all eight bits, at bit 7
	for _, c := range []struct {
		table     []byte
		bit, want int
	}{
		{tableOf(same), 0, 1}, {tableOf(same), 7, 1}, {tableOf(sbox.Sub), 0, 7}, {tableOf(sbox.Sub), 7, 7},
		{all, 0, 0}, {all, 6, 0}, {all, 7, 8},
		{make([]byte, 256), 0, 0}, {make([]byte, 256), 7, 0}, {bytes.Repeat([]byte{255}, 256), 0, 0}, {bytes.Repeat([]byte{255}, 256), 7, 0},
		{tableOf(func(x byte) byte { return x + 1 }), 0, 1}, {tableOf(func(x byte) byte { return x + 1 }), 7, 7},
		{tableOf(func(x byte) byte { return byte(parity(x)) }), 0, 1},
		{tableOf(func(x byte) byte { return x & (x >> 1) }), 3, 2}, {tableOf(func(x byte) byte { return x & (x >> 1) }), 7, 0},
	} {
		if got, e := sbox.Degree(c.table, c.bit); got != c.want || e != api.OK {
			t.Errorf("Degree(%d): %d, %v, not %d", c.bit, got, e, c.want)
		}
	}
}

func TestDegreeOfNoBit(t *testing.T) {
	for _, bit := range []int{-1, 8, 9, -8, 64, 256, -256, 1 << 32, 1<<32 + 1, -1 << 32, math.MinInt, math.MaxInt} {
		if got, e := sbox.Degree(box(), bit); got != 0 || e != api.ErrArg {
			t.Errorf("Degree(%d): %d, %v", bit, got, e)
		}
		for what, table := range wrongTables() {
			if got, e := sbox.Degree(table, bit); got != 0 || e != api.ErrBlock {
				t.Errorf("Degree(%d) of a table that is %s: %d, %v", bit, what, got, e)
			}
		}
	}
}

func TestWrongTables(t *testing.T) {
	for what, table := range wrongTables() {
		for _, c := range []struct {
			call string
			ask  func() (int, api.Errno)
		}{
			{"Differences", func() (int, api.Errno) { return sbox.Differences(table, 0, 0) }},
			{"Differences", func() (int, api.Errno) { return sbox.Differences(table, 255, 255) }},
			{"Uniform", func() (int, api.Errno) { return sbox.Uniform(table) }},
			{"Lines", func() (int, api.Errno) { return sbox.Lines(table, 0, 0) }},
			{"Lines", func() (int, api.Errno) { return sbox.Lines(table, 255, 255) }},
			{"Linear", func() (int, api.Errno) { return sbox.Linear(table) }},
			{"Cycles", func() (int, api.Errno) { list, e := sbox.Cycles(table); return len(list), e }},
			{"Degree", func() (int, api.Errno) { return sbox.Degree(table, 0) }},
			{"Degree", func() (int, api.Errno) { return sbox.Degree(table, 7) }},
		} {
			if got, e := c.ask(); got != 0 || e != api.ErrBlock {
				t.Errorf("%s of a table that is %s: %d, %v", c.call, what, got, e)
			}
		}
	}
}

func TestTable(t *testing.T) {
	rule, words, subs := sbox.Rule(), sbox.Words(), box()
	if len(rule) != 256 || len(words) != 256 {
		t.Fatalf("%d words of Rule, %d of Words", len(rule), len(words))
	}
	round := byte(0)
	for b := range 256 {
		want := uint32(subs[b]) | uint32(slices.Index(subs, byte(b)))<<8 | uint32(times(2, byte(b)))<<16 | uint32(round)<<24
		if rule[b] != want || words[b] != want {
			t.Errorf("word %#x: Rule %#x, Words %#x, not %#x", b, rule[b], words[b], want)
		}
		if round == 0 {
			round = 1
		} else {
			round = times(2, round)
		}
	}
}

func TestTheTableIsTheCallers(t *testing.T) {
	for what, call := range map[string]func() []uint32{"Rule": sbox.Rule, "Words": sbox.Words} {
		first, want := call(), call()
		whole := first[:cap(first)]
		for i := range whole {
			whole[i] = ^whole[i]
		}
		if got := call(); !slices.Equal(got, want) {
			t.Errorf("%s tells what was written into it", what)
		}
	}
	if got, want := sbox.Sub(0x53), byte(0xed); got != want {
		t.Errorf("Sub(0x53): %#x", got)
	}
}

func TestWhatIsHandedInStays(t *testing.T) {
	room := make([]byte, 300)
	copy(room, box())
	copy(room[256:], "the room behind the table")
	table, want := room[:256], bytes.Clone(room)
	sbox.Differences(table, 3, 4)
	sbox.Uniform(table)
	sbox.Lines(table, 3, 4)
	sbox.Linear(table)
	sbox.Degree(table, 4)
	lengths, _ := sbox.Cycles(table)
	if !bytes.Equal(room, want) {
		t.Error("a table, or the room behind it, was changed")
	}
	whole := lengths[:cap(lengths)]
	for i := range whole {
		whole[i] = -1
	}
	if again, e := sbox.Cycles(table); !slices.Equal(again, []int{87, 81, 59, 27, 2}) || e != api.OK {
		t.Errorf("Cycles, when an earlier answer was written into: %v, %v", again, e)
	}
	clear(room)
	if u, e := sbox.Uniform(table); u != 256 || e != api.OK {
		t.Errorf("Uniform of the table that has been cleared: %d, %v", u, e)
	}
	if sbox.Sub(0) != 0x63 {
		t.Error("Sub goes by a table that was handed in")
	}
}

func TestStrong(t *testing.T) {
	table := tableOf(sbox.Sub)
	var held [256]int
	for b, s := range table {
		held[s]++
		if s == byte(b) || s == ^byte(b) {
			t.Errorf("Sub(%#x): %#x", b, s)
		}
	}
	for b, count := range held {
		if count != 1 {
			t.Errorf("Sub has %#x %d times", b, count)
		}
	}
	if u, e := sbox.Uniform(table); u != 4 || e != api.OK {
		t.Errorf("Uniform: %d, %v", u, e)
	}
	if l, e := sbox.Linear(table); l != 16 || e != api.OK {
		t.Errorf("Linear: %d, %v", l, e)
	}
	for bit := range 8 {
		if d, e := sbox.Degree(table, bit); d != 7 || e != api.OK {
			t.Errorf("Degree(%d): %d, %v", bit, d, e)
		}
	}
}

// schedule: the round keys of a key of 16 bytes, by Sub and Round.
func schedule(key []byte) []byte {
	keys := bytes.Clone(key)
	for n := 4; n < 44; n++ {
		last := [4]byte(keys[4*n-4:])
		if n%4 == 0 {
			last = [4]byte{sbox.Sub(last[1]) ^ sbox.Round(n/4), sbox.Sub(last[2]), sbox.Sub(last[3]), sbox.Sub(last[0])}
		}
		for i, b := range last {
			keys = append(keys, b^keys[4*n-16+i])
		}
	}
	return keys
}

// encrypted: a block by the rounds of AES, put together of the package's calls.
func encrypted(keys []byte, block [16]byte) [16]byte {
	add := func(round int) {
		for i := range block {
			block[i] ^= keys[16*round+i]
		}
	}
	add(0)
	for round := 1; round <= 10; round++ {
		var moved [16]byte
		for i := range moved {
			moved[i] = sbox.Sub(block[(i+4*(i%4))%16])
		}
		for c := 0; c < 16 && round < 10; c += 4 {
			mixed := sbox.Mix([4]byte(moved[c:]))
			copy(moved[c:], mixed[:])
		}
		block = moved
		add(round)
	}
	return block
}

func TestRoundsAreThoseOfAES(t *testing.T) {
	r := rand.New(rand.NewSource(197))
	for range 50 {
		var key, block, want [16]byte
		r.Read(key[:])
		r.Read(block[:])
		c, err := aes.NewCipher(key[:])
		if err != nil {
			t.Fatal(err)
		}
		c.Encrypt(want[:], block[:])
		if got := encrypted(schedule(key[:]), block); got != want {
			t.Errorf("% x under % x: % x, not % x", block, key, got, want)
		}
	}
}
