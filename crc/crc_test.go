package crc_test

import (
	"hash/crc32"
	"hash/crc64"
	"math"
	"math/big"
	mathbits "math/bits"
	"math/rand"
	"slices"
	"strings"
	"testing"

	"orrery/api"
	"orrery/crc"
)

const ones = math.MaxUint64

// rows: the chapter's catalogue, with its checks.
var rows = []struct {
	model crc.Model
	check uint64
}{
	{crc.Model{Name: "CRC-8/SMBUS", Width: 8, Poly: 0x07}, 0xf4},
	{crc.Model{Name: "CRC-16/ARC", Width: 16, Poly: 0x8005, In: true, Out: true}, 0xbb3d},
	{crc.Model{Name: "CRC-16/XMODEM", Width: 16, Poly: 0x1021}, 0x31c3},
	{crc.Model{Name: "CRC-16/IBM-3740", Width: 16, Poly: 0x1021, Init: 0xffff}, 0x29b1},
	{crc.Model{Name: "CRC-16/KERMIT", Width: 16, Poly: 0x1021, In: true, Out: true}, 0x2189},
	{crc.Model{Name: "CRC-24/OPENPGP", Width: 24, Poly: 0x864cfb, Init: 0xb704ce}, 0x21cf02},
	{crc.Model{Name: "CRC-32/ISO-HDLC", Width: 32, Poly: 0x04c11db7, Init: 0xffffffff, In: true, Out: true, Xor: 0xffffffff}, 0xcbf43926},
	{crc.Model{Name: "CRC-32/BZIP2", Width: 32, Poly: 0x04c11db7, Init: 0xffffffff, Xor: 0xffffffff}, 0xfc891918},
	{crc.Model{Name: "CRC-32/ISCSI", Width: 32, Poly: 0x1edc6f41, Init: 0xffffffff, In: true, Out: true, Xor: 0xffffffff}, 0xe3069283},
	{crc.Model{Name: "CRC-64/XZ", Width: 64, Poly: 0x42f0e1eba9ea3693, Init: ones, In: true, Out: true, Xor: ones}, 0x995dc9bbdf1939fa},
}

func most(width int) uint64 { return ones >> (64 - width) }

// models: those of the catalogue, and of many widths some with In and Out like and unlike, at the ends of their numbers and between.
func models() []crc.Model {
	var list []crc.Model
	for _, row := range rows {
		list = append(list, row.model)
	}
	r := rand.New(rand.NewSource(4))
	for _, width := range []int{3, 4, 5, 7, 8, 9, 12, 15, 16, 24, 31, 32, 33, 40, 56, 63, 64} {
		m := most(width)
		for turn := range 4 {
			in, out := turn&1 == 1, turn&2 == 2
			list = append(list,
				crc.Model{Width: width, In: in, Out: out},
				crc.Model{Width: width, Poly: m, Init: m, In: in, Out: out, Xor: m},
				crc.Model{Width: width, Poly: r.Uint64() & m &^ 1, Init: r.Uint64() & m, In: in, Out: out, Xor: r.Uint64() & m},
				crc.Model{Name: "odd", Width: width, Poly: r.Uint64()&m | 1, Init: r.Uint64() & m, In: in, Out: out, Xor: r.Uint64() & m})
		}
	}
	return list
}

// wrongs: what is no model, each for one reason.
func wrongs() []crc.Model {
	list := []crc.Model{{}, {Name: "CRC-32/ISO-HDLC"}}
	for _, width := range []int{2, 1, 0, -1, -8, math.MinInt, 65, 66, 72, 128, math.MaxInt} {
		list = append(list, crc.Model{Width: width}, crc.Model{Width: width, Poly: 1, In: true, Out: true})
	}
	for _, width := range []int{3, 8, 16, 31, 32, 33, 63} {
		over := uint64(1) << width
		for _, v := range []uint64{over, over + 1, ones} {
			list = append(list, crc.Model{Width: width, Poly: v}, crc.Model{Width: width, Init: v}, crc.Model{Width: width, Xor: v})
		}
	}
	return list
}

func texts(seed int64) [][]byte {
	r := rand.New(rand.NewSource(seed))
	list := [][]byte{nil, {}, {0}, {255}, {1}, {0x80}, []byte("123456789")}
	for range 6 {
		text := make([]byte, 2+r.Intn(40))
		r.Read(text)
		list = append(list, text)
	}
	return list
}

func turn(v uint64, width int) uint64 { return mathbits.Reverse64(v) >> (64 - width) }

// remainder: Init at the text's front and the text's bits, w places up, modulo the polynomial, by long division of whole numbers: no register is in it.
func remainder(m crc.Model, begin uint64, text []byte) uint64 {
	number := new(big.Int)
	for _, c := range text {
		if m.In {
			c = mathbits.Reverse8(c)
		}
		number.Lsh(number, 8).Or(number, big.NewInt(int64(c)))
	}
	number.Lsh(number, uint(m.Width))
	front := new(big.Int).SetUint64(begin)
	number.Xor(number, front.Lsh(front, uint(8*len(text))))
	poly := new(big.Int).SetUint64(m.Poly)
	poly.SetBit(poly, m.Width, 1)
	for number.BitLen() > m.Width {
		number.Xor(number, new(big.Int).Lsh(poly, uint(number.BitLen()-1-m.Width)))
	}
	return number.Uint64()
}

func sumByDivision(m crc.Model, text []byte) uint64 {
	register := remainder(m, m.Init, text)
	if m.Out {
		register = turn(register, m.Width)
	}
	return register ^ m.Xor
}

// sumByTable: byte by byte through the model's table.
func sumByTable(t *testing.T, m crc.Model, text []byte) uint64 {
	t.Helper()
	table, e := crc.Table(m)
	if e != api.OK || len(table) != 256 {
		t.Fatalf("Table(%+v) has %d words, %v", m, len(table), e)
	}
	register := m.Init
	for _, c := range text {
		var first byte
		if m.Width >= 8 {
			first = byte(register >> (m.Width - 8))
		} else {
			first = byte(register << (8 - m.Width))
		}
		if m.In {
			first = mathbits.Reverse8(first)
		}
		register = register<<8&most(m.Width) ^ table[first^c]
	}
	if m.Out {
		register = turn(register, m.Width)
	}
	return register ^ m.Xor
}

func mustSum(t *testing.T, m crc.Model, text []byte) uint64 {
	t.Helper()
	sum, e := crc.Sum(m, text)
	if e != api.OK {
		t.Fatalf("Sum(%+v, %x): %v", m, text, e)
	}
	return sum
}

func mustFind(t *testing.T, name string) crc.Model {
	t.Helper()
	m, ok := crc.Find(name)
	if !ok {
		t.Fatalf("Find(%q) finds nothing", name)
	}
	return m
}

func mustBegin(t *testing.T, m crc.Model) *crc.State {
	t.Helper()
	s, e := crc.Begin(m)
	if e != api.OK || s == nil {
		t.Fatalf("Begin(%+v) = %v, %v", m, s, e)
	}
	return s
}

func mustCombine(t *testing.T, m crc.Model, a, b, n uint64) uint64 {
	t.Helper()
	sum, e := crc.Combine(m, a, b, n)
	if e != api.OK {
		t.Fatalf("Combine(%+v, %#x, %#x, %d): %v", m, a, b, n, e)
	}
	return sum
}

func want(t *testing.T, what string, m crc.Model, got, want uint64) {
	t.Helper()
	if got != want {
		t.Errorf("%s by %+v = %#x, want %#x", what, m, got, want)
	}
}

// F4.1

func TestCatalogue(t *testing.T) {
	list := crc.Catalogue()
	if len(list) != len(rows) {
		t.Fatalf("%d models, want %d", len(list), len(rows))
	}
	for i, row := range rows {
		if list[i] != row.model {
			t.Errorf("model %d is %+v, want %+v", i, list[i], row.model)
		}
	}
}

func TestCatalogueIsNew(t *testing.T) {
	list := crc.Catalogue()
	list = list[:cap(list)]
	for i := range list {
		list[i] = crc.Model{Name: "bent"}
	}
	TestCatalogue(t)
	TestFind(t)
}

func TestFind(t *testing.T) {
	for _, row := range rows {
		if m, ok := crc.Find(row.model.Name); m != row.model || !ok {
			t.Errorf("Find(%q) = %+v, %v", row.model.Name, m, ok)
		}
	}
	for _, name := range []string{"", "crc", "CRC", "CRC-32", "CRC-32/", "crc-32/iscsi", "CRC-32/ISCSI ", " CRC-32/ISCSI", "CRC-32/ISCSI\x00", strings.Repeat("x", 1000)} {
		if m, ok := crc.Find(name); m != (crc.Model{}) || ok {
			t.Errorf("Find(%q) = %+v, %v; want none", name, m, ok)
		}
	}
}

func TestValid(t *testing.T) {
	for _, m := range models() {
		if !crc.Valid(m) {
			t.Errorf("%+v is no model", m)
		}
	}
	for _, m := range wrongs() {
		if crc.Valid(m) {
			t.Errorf("%+v is a model", m)
		}
	}
}

func TestValidAtTheEdges(t *testing.T) {
	for width := -2; width <= 70; width++ {
		if got := crc.Valid(crc.Model{Width: width}); got != (3 <= width && width <= 64) {
			t.Errorf("Valid of the width %d is %v", width, got)
		}
	}
	for width := 3; width <= 64; width++ {
		top := most(width)
		for _, v := range []uint64{0, 1, top - 1, top} {
			if !crc.Valid(crc.Model{Width: width, Poly: v, Init: v, Xor: v}) {
				t.Errorf("%#x has no room in %d bits", v, width)
			}
		}
		if width == 64 {
			continue
		}
		for _, m := range []crc.Model{{Width: width, Poly: top + 1}, {Width: width, Init: top + 1}, {Width: width, Xor: top + 1}} {
			if crc.Valid(m) {
				t.Errorf("%+v is a model", m)
			}
		}
	}
}

func TestNameOfAModelMayBeAny(t *testing.T) {
	m := mustFind(t, "CRC-32/ISCSI")
	for _, name := range []string{"", "CRC-8/SMBUS", "\xff\x00", strings.Repeat("name ", 1000)} {
		m.Name = name
		if got, e := crc.Check(m); !crc.Valid(m) || got != 0xe3069283 || e != api.OK {
			t.Errorf("Check of the name %q = %#x, %v", name, got, e)
		}
	}
}

func TestWhatIsNoModel(t *testing.T) {
	for _, m := range wrongs() {
		if table, e := crc.Table(m); len(table) != 0 || e != api.ErrModel {
			t.Errorf("Table(%+v) = %v, %v", m, table, e)
		}
		if s, e := crc.Begin(m); s != nil || e != api.ErrModel {
			t.Errorf("Begin(%+v) = %v, %v", m, s, e)
		}
		if whole, e := crc.Append(m, []byte("a")); len(whole) != 0 || e != api.ErrModel {
			t.Errorf("Append(%+v) = %v, %v", m, whole, e)
		}
		for what, f := range map[string]func() (uint64, api.Errno){
			"Sum":     func() (uint64, api.Errno) { return crc.Sum(m, []byte("a")) },
			"Check":   func() (uint64, api.Errno) { return crc.Check(m) },
			"Combine": func() (uint64, api.Errno) { return crc.Combine(m, ones, ones, 1) },
			"Residue": func() (uint64, api.Errno) { return crc.Residue(m) },
		} {
			if got, e := f(); got != 0 || e != api.ErrModel {
				t.Errorf("%s(%+v) = %#x, %v; want ErrModel", what, m, got, e)
			}
		}
	}
}

// F4.2, P401

func TestTableOfEachModel(t *testing.T) {
	for _, m := range models() {
		table, e := crc.Table(m)
		if e != api.OK || len(table) != 256 {
			t.Fatalf("Table(%+v) has %d words, %v", m, len(table), e)
		}
		for b, got := range table {
			want(t, "the table's word", m, got, remainder(m, 0, []byte{byte(b)}))
		}
	}
}

func TestTableHangsOnWidthPolyAndInAlone(t *testing.T) {
	for _, m := range models() {
		bare, e := crc.Table(crc.Model{Width: m.Width, Poly: m.Poly, In: m.In})
		table, _ := crc.Table(m)
		if e != api.OK || !slices.Equal(bare, table) {
			t.Errorf("Table(%+v) is another without Init, Out and Xor", m)
		}
	}
}

func TestSum(t *testing.T) {
	for _, m := range models() {
		for _, text := range texts(42) {
			sum := sumByDivision(m, text)
			want(t, "Sum", m, mustSum(t, m, text), sum)
			want(t, "the sum through Table", m, sumByTable(t, m, text), sum)
		}
	}
}

func TestSumOfNothing(t *testing.T) {
	for _, m := range models() {
		begin := m.Init
		if m.Out {
			begin = turn(begin, m.Width)
		}
		want(t, "Sum of nil", m, mustSum(t, m, nil), begin^m.Xor)
		want(t, "Sum of no bytes", m, mustSum(t, m, []byte{}), begin^m.Xor)
	}
}

func TestSumOfAShortRegister(t *testing.T) {
	m := crc.Model{Width: 3, Poly: 3}
	want(t, "Sum([1])", m, mustSum(t, m, []byte{1}), 3)
	m.In = true
	want(t, "Sum([128])", m, mustSum(t, m, []byte{128}), 3)
	m.Out = true
	want(t, "Sum([128])", m, mustSum(t, m, []byte{128}), 6)
	m.Xor = 7
	want(t, "Sum([128])", m, mustSum(t, m, []byte{128}), 1)
}

func TestCheckOfEachOfTheCatalogue(t *testing.T) {
	for _, row := range rows {
		got, e := crc.Check(row.model)
		if got != row.check || e != api.OK {
			t.Errorf("Check(%s) = %#x, %v; want %#x", row.model.Name, got, e, row.check)
		}
	}
	for _, m := range models() {
		got, e := crc.Check(m)
		if e != api.OK {
			t.Errorf("Check(%+v): %v", m, e)
		}
		want(t, "Check", m, got, sumByDivision(m, []byte("123456789")))
	}
}

func TestSum32(t *testing.T) {
	m := mustFind(t, "CRC-32/ISO-HDLC")
	want(t, "Sum32 of nil", m, uint64(crc.Sum32(nil)), 0)
	want(t, "Sum32 of no bytes", m, uint64(crc.Sum32([]byte{})), 0)
	want(t, "Sum32 of a", m, uint64(crc.Sum32([]byte("a"))), 0xe8b7be43)
	want(t, "Sum32 of the check", m, uint64(crc.Sum32([]byte("123456789"))), 0xcbf43926)
	for _, text := range texts(43) {
		want(t, "Sum32", m, uint64(crc.Sum32(text)), uint64(crc32.ChecksumIEEE(text)))
		want(t, "Sum", m, mustSum(t, m, text), uint64(crc32.ChecksumIEEE(text)))
	}
}

func TestSumsOfTheLibrary(t *testing.T) {
	castagnoli, ecma := crc32.MakeTable(crc32.Castagnoli), crc64.MakeTable(crc64.ECMA)
	long := make([]byte, 100000)
	rand.New(rand.NewSource(64)).Read(long)
	for _, text := range append(texts(44), long) {
		iscsi, xz := mustFind(t, "CRC-32/ISCSI"), mustFind(t, "CRC-64/XZ")
		want(t, "Sum", iscsi, mustSum(t, iscsi, text), uint64(crc32.Checksum(text, castagnoli)))
		want(t, "Sum", xz, mustSum(t, xz, text), crc64.Checksum(text, ecma))
	}
}

func TestWordsAndRule(t *testing.T) {
	words, rule := crc.Words(), crc.Rule()
	if len(words) != 256 || len(rule) != 256 {
		t.Fatalf("%d words, %d of the rule; want 256", len(words), len(rule))
	}
	table, _ := crc.Table(mustFind(t, "CRC-32/ISO-HDLC"))
	usual := crc32.MakeTable(crc32.IEEE)
	for b := range 256 {
		if words[b] != usual[b] || rule[b] != usual[b] || mathbits.Reverse32(uint32(table[b])) != usual[b] {
			t.Errorf("word %d is %#x, the rule's %#x, the model's %#x; want %#x", b, words[b], rule[b], table[b], usual[b])
		}
	}
	if words[0] != 0 || words[1] != 0x77073096 || words[255] != 0x2d02ef8d {
		t.Errorf("Words has %#x, %#x .. %#x", words[0], words[1], words[255])
	}
}

func TestTablesAreNew(t *testing.T) {
	for what, f := range map[string]func() []uint32{"Words": crc.Words, "Rule": crc.Rule} {
		first := f()
		kept := slices.Clone(first)
		first = first[:cap(first)]
		for i := range first {
			first[i] = 77
		}
		if got := f(); !slices.Equal(got, kept) {
			t.Errorf("%s is not new memory", what)
		}
	}
	m := mustFind(t, "CRC-16/ARC")
	first, _ := crc.Table(m)
	kept := slices.Clone(first)
	first = first[:cap(first)]
	for i := range first {
		first[i] = 77
	}
	if again, _ := crc.Table(m); !slices.Equal(again, kept) {
		t.Error("Table is not new memory")
	}
	want(t, "Sum32 behind tables that were written over", m, uint64(crc.Sum32([]byte("a"))), 0xe8b7be43)
}

func TestSumsLeaveWhatIsHandedIn(t *testing.T) {
	room := []byte("123456789 and its spare room")
	kept := slices.Clone(room)
	for _, m := range models() {
		crc.Sum(m, room[:9])
		s := mustBegin(t, m)
		s.Write(room[:9])
		sum := s.Sum()
		if !slices.Equal(room, kept) {
			t.Fatalf("%q was changed to %q", kept, room)
		}
		room[0] = 'x'
		want(t, "Sum of a state whose bytes were written over", m, s.Sum(), sum)
		room[0] = '1'
	}
	crc.Sum32(room[:9])
	if !slices.Equal(room, kept) {
		t.Fatalf("%q was changed to %q", kept, room)
	}
}

// F4.3

func TestStateOfNothing(t *testing.T) {
	for _, m := range models() {
		s := mustBegin(t, m)
		want(t, "Sum of a new state", m, s.Sum(), sumByDivision(m, nil))
		want(t, "Len of a new state", m, s.Len(), 0)
		if n := s.Write(nil) + s.Write([]byte{}); n != 0 || s.Len() != 0 {
			t.Errorf("no bytes were %d, and are %d", n, s.Len())
		}
		want(t, "Sum behind no bytes", m, s.Sum(), sumByDivision(m, nil))
	}
}

func TestStateGrows(t *testing.T) {
	text := []byte("the machine begins with a book of tables")
	for _, m := range models() {
		s := mustBegin(t, m)
		for i := range text {
			if n := s.Write(text[i : i+1]); n != 1 {
				t.Fatalf("Write of a byte = %d", n)
			}
			want(t, "Len", m, s.Len(), uint64(i+1))
			want(t, "Sum", m, s.Sum(), sumByDivision(m, text[:i+1]))
			want(t, "Sum asked twice", m, s.Sum(), sumByDivision(m, text[:i+1]))
		}
	}
}

func TestNilState(t *testing.T) {
	var s *crc.State
	if n := s.Write([]byte("abc")); n != 0 {
		t.Errorf("a nil state took %d bytes", n)
	}
	if s.Write(nil) != 0 || s.Sum() != 0 || s.Len() != 0 {
		t.Errorf("a nil state answers %d, %d", s.Sum(), s.Len())
	}
}

func TestStatesShareNothing(t *testing.T) {
	for _, m := range models() {
		a, b := mustBegin(t, m), mustBegin(t, m)
		a.Write([]byte("one"))
		b.Write([]byte("another"))
		a.Write([]byte(" and two"))
		want(t, "the first state", m, a.Sum(), sumByDivision(m, []byte("one and two")))
		want(t, "the second state", m, b.Sum(), sumByDivision(m, []byte("another")))
		if a.Len() != 11 || b.Len() != 7 {
			t.Errorf("%d and %d bytes went in, want 11 and 7", a.Len(), b.Len())
		}
	}
}

// P402

func TestSumsAreAffine(t *testing.T) {
	r := rand.New(rand.NewSource(402))
	for _, m := range models() {
		for length := range 24 {
			a, b, c, all := make([]byte, length), make([]byte, length), make([]byte, length), make([]byte, length)
			r.Read(a)
			r.Read(b)
			r.Read(c)
			for i := range all {
				all[i] = a[i] ^ b[i] ^ c[i]
			}
			want(t, "the four sums", m, mustSum(t, m, a)^mustSum(t, m, b)^mustSum(t, m, c)^mustSum(t, m, all), 0)
		}
	}
}

// P403

func TestPieces(t *testing.T) {
	r := rand.New(rand.NewSource(403))
	text := make([]byte, 300)
	r.Read(text)
	for _, m := range models() {
		sum := sumByDivision(m, text)
		for range 5 {
			s := mustBegin(t, m)
			for rest := text; len(rest) > 0; {
				n := r.Intn(min(len(rest), 90) + 1)
				if got := s.Write(rest[:n]); got != n {
					t.Fatalf("Write of %d bytes = %d", n, got)
				}
				rest = rest[n:]
			}
			want(t, "Sum of pieces", m, s.Sum(), sum)
			want(t, "Len of pieces", m, s.Len(), 300)
		}
	}
}

func TestCombineOfTwoTexts(t *testing.T) {
	for _, m := range models() {
		for _, a := range texts(405) {
			for _, b := range texts(406) {
				both := slices.Concat(a, b)
				got := mustCombine(t, m, mustSum(t, m, a), mustSum(t, m, b), uint64(len(b)))
				want(t, "Combine", m, got, mustSum(t, m, both))
			}
		}
	}
}

// F4.4

func TestCombineExample(t *testing.T) {
	m := mustFind(t, "CRC-32/ISO-HDLC")
	a, b := uint64(crc.Sum32([]byte("1234"))), uint64(crc.Sum32([]byte("56789")))
	want(t, "Combine", m, mustCombine(t, m, a, b, 5), 0xcbf43926)
}

// combined: as F4.4 reckons it, with all the bytes of 0 there are.
func combined(m crc.Model, a, b uint64, n int) uint64 {
	register := a ^ m.Xor
	if m.Out {
		register = turn(register, m.Width)
	}
	register = remainder(m, register^m.Init, make([]byte, n))
	if m.Out {
		register = turn(register, m.Width)
	}
	return register ^ b
}

func TestCombineOfAnyNumbers(t *testing.T) {
	r := rand.New(rand.NewSource(404))
	for _, m := range models() {
		top := most(m.Width)
		for _, n := range []int{0, 1, 2, 3, 7, 8, 31, 100} {
			for _, a := range []uint64{0, 1, top, r.Uint64() & top} {
				for _, b := range []uint64{0, top, r.Uint64() & top} {
					want(t, "Combine", m, mustCombine(t, m, a, b, uint64(n)), combined(m, a, b, n))
				}
			}
		}
	}
}

// Behind the sum of nothing Combine only sends its register through noughts: so many and so many more are as many together.
func TestCombineOfManyBytes(t *testing.T) {
	r := rand.New(rand.NewSource(464))
	for _, m := range models() {
		nothing := mustSum(t, m, nil)
		sent := func(a, n uint64) uint64 { return mustCombine(t, m, a, nothing, n) }
		a := r.Uint64() & most(m.Width)
		all := a
		for i := range 64 {
			n := uint64(1) << i
			all = sent(all, n)
			if i < 63 {
				want(t, "noughts twice", m, sent(sent(a, n), n), sent(a, 2*n))
			}
			want(t, "noughts together", m, sent(a, 2*n-1), all)
		}
		want(t, "as many noughts as can be", m, sent(a, ones), all)
		want(t, "one nought less", m, sent(sent(a, ones-1), 1), all)
	}
}

func TestCombineComesRound(t *testing.T) {
	m := crc.Model{Width: 8, Poly: 0x1d, Init: 0x5a, Xor: 0xa5} // its x comes round behind 255 bits, and 255 divides 2^64 less 1
	for a := range uint64(256) {
		want(t, "Combine behind 2^64 less 1 bytes", m, mustCombine(t, m, a, 0x17, ones), combined(m, a, 0x17, 0))
		want(t, "Combine behind 2^64 less 2 bytes", m, mustCombine(t, m, a, 0x17, ones-1), combined(m, a, 0x17, 254))
	}
	m.Poly = 0 // all is shifted out
	want(t, "Combine with no polynomial", m, mustCombine(t, m, 0x33, 0x17, ones), 0x17)
}

func TestCombineOfWhatHasNoRoom(t *testing.T) {
	for _, m := range models() {
		top := most(m.Width)
		mustCombine(t, m, top, top, 0)
		mustCombine(t, m, top, top, ones)
		if m.Width == 64 {
			continue
		}
		for _, c := range []struct{ a, b uint64 }{{top + 1, 0}, {0, top + 1}, {top + 1, top + 1}, {ones, top}, {top, ones}} {
			for _, n := range []uint64{0, 1, ones} {
				if got, e := crc.Combine(m, c.a, c.b, n); got != 0 || e != api.ErrArg {
					t.Errorf("Combine(%+v, %#x, %#x, %d) = %#x, %v; want ErrArg", m, c.a, c.b, n, got, e)
				}
			}
		}
	}
	if got, e := crc.Combine(mustFind(t, "CRC-8/SMBUS"), 256, 0, 1); got != 0 || e != api.ErrArg {
		t.Errorf("Combine of 256 by eight bits = %d, %v", got, e)
	}
}

// F4.5, P405

func canAppend(m crc.Model) bool { return m.Width%8 == 0 && m.In == m.Out }

func TestAppend(t *testing.T) {
	for _, m := range models() {
		for _, text := range texts(45) {
			whole, e := crc.Append(m, text)
			if !canAppend(m) {
				if len(whole) != 0 || e != api.ErrArg {
					t.Errorf("Append(%+v) = %x, %v; want ErrArg", m, whole, e)
				}
				continue
			}
			behind := slices.Clone(text)
			for i := range m.Width / 8 {
				shift := m.Width - 8 - 8*i
				if m.Out {
					shift = 8 * i
				}
				behind = append(behind, byte(sumByDivision(m, text)>>shift))
			}
			if e != api.OK || !slices.Equal(whole, behind) {
				t.Errorf("Append(%+v, %x) = %x, %v; want %x", m, text, whole, e, behind)
			}
		}
	}
}

func TestAppendExamples(t *testing.T) {
	for _, c := range []struct {
		name   string
		behind []byte
	}{
		{"CRC-8/SMBUS", []byte{0xf4}},
		{"CRC-16/XMODEM", []byte{0x31, 0xc3}},
		{"CRC-16/KERMIT", []byte{0x89, 0x21}},
		{"CRC-24/OPENPGP", []byte{0x21, 0xcf, 0x02}},
		{"CRC-32/ISO-HDLC", []byte{0x26, 0x39, 0xf4, 0xcb}},
		{"CRC-32/BZIP2", []byte{0xfc, 0x89, 0x19, 0x18}},
	} {
		whole, e := crc.Append(mustFind(t, c.name), []byte("123456789"))
		if e != api.OK || string(whole) != "123456789"+string(c.behind) {
			t.Errorf("Append by %s = %x, %v; want %x behind the text", c.name, whole, e, c.behind)
		}
	}
	m := mustFind(t, "CRC-16/XMODEM")
	whole, _ := crc.Append(m, []byte("123456789"))
	want(t, "the sum of Append", m, mustSum(t, m, whole), 0)
}

func TestAppendAtEachWidth(t *testing.T) {
	for width := 3; width <= 64; width++ {
		for turn := range 4 {
			m := crc.Model{Width: width, Poly: 1, In: turn&1 == 1, Out: turn&2 == 2}
			wantErr, length := api.ErrArg, 0
			if canAppend(m) {
				wantErr, length = api.OK, 2+width/8
			}
			if whole, e := crc.Append(m, []byte("ab")); len(whole) != length || e != wantErr {
				t.Errorf("Append(%+v) = %x, %v; want %d bytes, %v", m, whole, e, length, wantErr)
			}
			if got, e := crc.Residue(m); e != wantErr || e != api.OK && got != 0 {
				t.Errorf("Residue(%+v) = %#x, %v; want %v", m, got, e, wantErr)
			}
		}
	}
}

func TestAppendIsNewMemory(t *testing.T) {
	for _, m := range models() {
		if !canAppend(m) {
			continue
		}
		for _, length := range []int{0, 1, 9, 20} {
			room := []byte("123456789 and its spare room")
			kept := slices.Clone(room)
			whole, _ := crc.Append(m, room[:length])
			wholeKept := slices.Clone(whole)
			if !slices.Equal(room, kept) {
				t.Fatalf("Append made %q of %q", room, kept)
			}
			for i := range room {
				room[i] = 'x'
			}
			if !slices.Equal(whole, wholeKept) {
				t.Fatalf("what Append answered became %q", whole)
			}
			whole = whole[:cap(whole)]
			for i := range whole {
				whole[i] = 'y'
			}
			if strings.Trim(string(room), "x") != "" {
				t.Fatalf("what was handed in became %q", room)
			}
		}
	}
}

func TestResidue(t *testing.T) {
	for _, c := range []struct {
		name string
		want uint64
	}{
		{"CRC-8/SMBUS", 0}, {"CRC-16/ARC", 0}, {"CRC-16/XMODEM", 0}, {"CRC-16/IBM-3740", 0}, {"CRC-16/KERMIT", 0}, {"CRC-24/OPENPGP", 0},
		{"CRC-32/ISO-HDLC", 0xdebb20e3}, {"CRC-32/BZIP2", 0xc704dd7b}, {"CRC-32/ISCSI", 0xb798b438}, {"CRC-64/XZ", 0x49958c9abd7d353f},
	} {
		m := mustFind(t, c.name)
		got, e := crc.Residue(m)
		if e != api.OK {
			t.Errorf("Residue(%s): %v", c.name, e)
		}
		want(t, "Residue", m, got, c.want)
	}
}

func TestResidueOfAnyBytes(t *testing.T) {
	for _, m := range models() {
		residue, e := crc.Residue(m)
		if !canAppend(m) {
			if residue != 0 || e != api.ErrArg {
				t.Errorf("Residue(%+v) = %#x, %v; want ErrArg", m, residue, e)
			}
			continue
		}
		if e != api.OK {
			t.Fatalf("Residue(%+v): %v", m, e)
		}
		for _, text := range texts(455) {
			whole, _ := crc.Append(m, text)
			want(t, "the sum of Append", m, mustSum(t, m, whole), residue^m.Xor)
			want(t, "the sum of Append, by division", m, sumByDivision(m, whole), residue^m.Xor)
		}
	}
}

// P404

// turnBits: the text with a group of bits turned, in the order in which the register takes them.
func turnBits(m crc.Model, text []byte, at int, group uint64) []byte {
	turned := slices.Clone(text)
	for ; group > 0; group >>= 1 {
		bit := 7 - at%8
		if m.In {
			bit = at % 8
		}
		turned[at/8] ^= byte(group&1) << bit
		at++
	}
	return turned
}

func wantSeen(t *testing.T, m crc.Model, text []byte, at int, group uint64) {
	t.Helper()
	turned := turnBits(m, text, at, group)
	if mustSum(t, m, turned) == mustSum(t, m, text) {
		t.Errorf("by %+v %x and %x have one sum", m, text, turned)
	}
}

func TestShortBurstsAreAllSeen(t *testing.T) {
	text := []byte("bent")
	for _, m := range models() {
		if m.Poly&1 == 0 || m.Width > 9 {
			continue
		}
		for at := range 8*len(text) - m.Width + 1 {
			for group := uint64(1); group <= most(m.Width); group++ {
				wantSeen(t, m, text, at, group)
			}
		}
	}
}

func TestLongBurstsAreSeen(t *testing.T) {
	r := rand.New(rand.NewSource(440))
	text := []byte("a table that is bent")
	for _, m := range models() {
		if m.Poly&1 == 0 {
			continue
		}
		top := most(m.Width)
		for at := range 8*len(text) - m.Width + 1 {
			for _, group := range []uint64{1, top, 1<<(m.Width-1) | 1, r.Uint64()&top | 1} {
				wantSeen(t, m, text, at, group)
			}
		}
	}
}

func TestALongerBurstMayBeMissed(t *testing.T) {
	m := crc.Model{Width: 8, Poly: 0x07}
	text := []byte("abc")
	missed := turnBits(m, text, 3, 0x1c1) // the polynomial itself, its highest bit first
	want(t, "Sum of a text with the polynomial put to it", m, mustSum(t, m, missed), mustSum(t, m, text))
}
