package bits_test

import (
	"math"
	mathbits "math/bits"
	"math/rand"
	"slices"
	"testing"

	"orrery/api"
	"orrery/bits"
)

// words: some of all sizes, with each bit by itself, its neighbours, and their complements.
func words() []uint32 {
	list := []uint32{0, math.MaxUint32, 0x55555555, 0xaaaaaaaa, 0xf000000f, 0x01234567}
	for i := range 32 {
		p := uint32(1) << i
		list = append(list, p-1, p, p+1, ^p)
	}
	r := rand.New(rand.NewSource(3))
	for i := range 64 {
		list = append(list, r.Uint32()>>(i%32))
	}
	return list
}

func wantInt(t *testing.T, what string, got, want int) {
	t.Helper()
	if got != want {
		t.Errorf("%s = %d, want %d", what, got, want)
	}
}

func wantWord(t *testing.T, what string, got, want uint32) {
	t.Helper()
	if got != want {
		t.Errorf("%s = %#x, want %#x", what, got, want)
	}
}

// P301

func TestOfEachByte(t *testing.T) {
	for v := range 256 {
		b := byte(v)
		ones, low, high, reverse := 0, -1, -1, byte(0)
		for i := 7; i >= 0; i-- {
			if b>>i&1 == 0 {
				continue
			}
			ones++
			low = i
			high = max(high, i)
			reverse |= 1 << (7 - i)
		}
		wantInt(t, "Ones", bits.Ones(b), ones)
		wantInt(t, "Parity", bits.Parity(b), ones%2)
		wantInt(t, "Low", bits.Low(b), low)
		wantInt(t, "High", bits.High(b), high)
		wantWord(t, "Reverse", uint32(bits.Reverse(b)), uint32(reverse))
	}
}

func TestOfSomeBytes(t *testing.T) {
	for _, c := range []struct {
		b                       byte
		ones, parity, low, high int
		reverse                 byte
	}{
		{0, 0, 0, -1, -1, 0},
		{255, 8, 0, 0, 7, 255},
		{0xb1, 4, 0, 0, 7, 0x8d},
		{0x01, 1, 1, 0, 0, 0x80},
		{0x80, 1, 1, 7, 7, 0x01},
		{0x08, 1, 1, 3, 3, 0x10},
		{0x10, 1, 1, 4, 4, 0x08},
		{0x70, 3, 1, 4, 6, 0x0e},
	} {
		wantInt(t, "Ones", bits.Ones(c.b), c.ones)
		wantInt(t, "Parity", bits.Parity(c.b), c.parity)
		wantInt(t, "Low", bits.Low(c.b), c.low)
		wantInt(t, "High", bits.High(c.b), c.high)
		wantWord(t, "Reverse", uint32(bits.Reverse(c.b)), uint32(c.reverse))
	}
}

// P302

func TestOnes32(t *testing.T) {
	wantInt(t, "Ones32(0)", bits.Ones32(0), 0)
	wantInt(t, "Ones32 of all bits", bits.Ones32(math.MaxUint32), 32)
	wantInt(t, "Ones32(0xf000000f)", bits.Ones32(0xf000000f), 8)
	for _, w := range words() {
		wantInt(t, "Ones32", bits.Ones32(w), mathbits.OnesCount32(w))
	}
}

func TestReverse32(t *testing.T) {
	wantWord(t, "Reverse32(1, 32)", bits.Reverse32(1, 32), 0x80000000)
	wantWord(t, "Reverse32(6, 3)", bits.Reverse32(6, 3), 3)
	wantWord(t, "Reverse32(0xfffffff9, 1)", bits.Reverse32(0xfffffff9, 1), 1)
	wantWord(t, "Reverse32(0xfffffff8, 3)", bits.Reverse32(0xfffffff8, 3), 0)
	wantWord(t, "Reverse32(0x80000001, 31)", bits.Reverse32(0x80000001, 31), 0x40000000)
	for _, w := range words() {
		for n := 1; n <= 32; n++ {
			wantWord(t, "Reverse32", bits.Reverse32(w, n), mathbits.Reverse32(w)>>(32-n))
		}
	}
}

func TestReverse32BeyondItsBits(t *testing.T) {
	for _, w := range words() {
		for _, n := range []int{0, -1, -32, math.MinInt} {
			wantWord(t, "Reverse32 of no bits", bits.Reverse32(w, n), 0)
		}
		for _, n := range []int{32, 33, 64, math.MaxInt} {
			wantWord(t, "Reverse32 of all bits", bits.Reverse32(w, n), mathbits.Reverse32(w))
		}
	}
}

// P303

func TestGray(t *testing.T) {
	wantWord(t, "Gray(0)", bits.Gray(0), 0)
	wantWord(t, "Gray(5)", bits.Gray(5), 7)
	wantWord(t, "Gray of the greatest", bits.Gray(math.MaxUint32), 0x80000000)
	wantWord(t, "Ungray(0)", bits.Ungray(0), 0)
	wantWord(t, "Ungray(7)", bits.Ungray(7), 5)
	wantWord(t, "Ungray(0x80000000)", bits.Ungray(0x80000000), math.MaxUint32)
	for w := range uint32(8) {
		wantWord(t, "Gray", bits.Gray(w), []uint32{0, 1, 3, 2, 6, 7, 5, 4}[w])
	}
}

func TestGrayThereAndBack(t *testing.T) {
	for _, w := range words() {
		wantWord(t, "Gray", bits.Gray(w), w^w>>1)
		wantWord(t, "Ungray of Gray", bits.Ungray(bits.Gray(w)), w)
		wantWord(t, "Gray of Ungray", bits.Gray(bits.Ungray(w)), w)
	}
}

func TestNeighboursOfGrayDifferInOneBit(t *testing.T) {
	for _, w := range append(words(), math.MaxUint32) {
		wantInt(t, "bits that differ", mathbits.OnesCount32(bits.Gray(w)^bits.Gray(w+1)), 1)
	}
}

// P304

func TestDistance(t *testing.T) {
	for _, c := range []struct {
		a, b []byte
		want int
	}{
		{nil, nil, 0},
		{[]byte{}, nil, 0},
		{nil, []byte{0}, 0},
		{nil, []byte{255, 0, 1}, 9},
		{[]byte{1}, []byte{2}, 2},
		{[]byte{1, 3}, []byte{2}, 4},
		{[]byte{0xf0, 0x0f}, []byte{0xf0, 0x0f}, 0},
		{[]byte{0, 0}, []byte{255, 255}, 16},
		{[]byte{7}, []byte{7, 0, 0x80}, 1},
	} {
		wantInt(t, "Distance", bits.Distance(c.a, c.b), c.want)
		wantInt(t, "Distance the other way", bits.Distance(c.b, c.a), c.want)
	}
}

func TestDistanceOfManyLists(t *testing.T) {
	r := rand.New(rand.NewSource(304))
	for range 200 {
		a, b := make([]byte, r.Intn(20)), make([]byte, r.Intn(20))
		r.Read(a)
		r.Read(b)
		want := 0
		for i := range max(len(a), len(b)) {
			var x, y byte
			if i < len(a) {
				x = a[i]
			}
			if i < len(b) {
				y = b[i]
			}
			want += mathbits.OnesCount8(x ^ y)
		}
		wantInt(t, "Distance", bits.Distance(a, b), want)
	}
}

func TestDistanceLeavesWhatIsHandedIn(t *testing.T) {
	roomA, roomB := []byte{1, 2, 3, 4, 5, 6}, []byte{9, 8, 7, 6, 5, 4}
	for _, c := range []struct{ a, b, want int }{{2, 5, 10}, {5, 2, 8}, {3, 3, 4}} {
		wantInt(t, "Distance", bits.Distance(roomA[:c.a], roomB[:c.b]), c.want)
		if !slices.Equal(roomA, []byte{1, 2, 3, 4, 5, 6}) || !slices.Equal(roomB, []byte{9, 8, 7, 6, 5, 4}) {
			t.Fatalf("Distance changed what it was given: %v, %v", roomA, roomB)
		}
	}
	a := []byte{1}
	bits.Distance(a, nil)
	a[0] = 255
	wantInt(t, "Distance of the list as it is now", bits.Distance(a, nil), 8)
}

// P305

func TestSpreadAndGather(t *testing.T) {
	wantWord(t, "Spread(5, 0xb0)", bits.Spread(5, 0xb0), 0x90)
	wantWord(t, "Gather(0x90, 0xb0)", bits.Gather(0x90, 0xb0), 5)
	wantWord(t, "Spread(0xf, 0x80000001)", bits.Spread(0xf, 0x80000001), 0x80000001)
	wantWord(t, "Spread(2, 0x80000001)", bits.Spread(2, 0x80000001), 0x80000000)
	wantWord(t, "Gather(0x80000000, 0x80000001)", bits.Gather(0x80000000, 0x80000001), 2)
	wantWord(t, "Gather(0x7ffffffe, 0x80000001)", bits.Gather(0x7ffffffe, 0x80000001), 0)
}

func TestSpreadAndGatherAtTheEndsOfMasks(t *testing.T) {
	for _, w := range words() {
		wantWord(t, "Spread without a place", bits.Spread(w, 0), 0)
		wantWord(t, "Gather without a place", bits.Gather(w, 0), 0)
		wantWord(t, "Spread to all places", bits.Spread(w, math.MaxUint32), w)
		wantWord(t, "Gather from all places", bits.Gather(w, math.MaxUint32), w)
	}
}

func TestSpreadAndGatherThereAndBack(t *testing.T) {
	for _, w := range words() {
		for _, mask := range words() {
			lowest := uint32(uint64(1)<<mathbits.OnesCount32(mask) - 1)
			wantWord(t, "Gather of Spread", bits.Gather(bits.Spread(w, mask), mask), w&lowest)
			wantWord(t, "Spread of Gather", bits.Spread(bits.Gather(w, mask), mask), w&mask)
			if got := bits.Spread(w, mask); got&^mask != 0 {
				t.Errorf("Spread(%#x, %#x) = %#x has bits beside the mask", w, mask, got)
			}
		}
	}
}

// P306

func TestPacked(t *testing.T) {
	for n := range 100 {
		b, e := bits.Packed(n)
		if b != byte(n/10*16+n%10) || e != api.OK {
			t.Errorf("Packed(%d) = %#x, %v", n, b, e)
		}
		back, e := bits.Unpacked(b)
		if back != n || e != api.OK {
			t.Errorf("Unpacked(%#x) = %d, %v; want %d", b, back, e, n)
		}
	}
	for _, n := range []int{-1, -99, 100, 256, 298, math.MaxInt, math.MinInt} {
		if b, e := bits.Packed(n); b != 0 || e != api.ErrArg {
			t.Errorf("Packed(%d) = %#x, %v; want ErrArg", n, b, e)
		}
	}
}

func TestUnpackedOfEachByte(t *testing.T) {
	for b := range 256 {
		want, wantErr := b/16*10+b%16, api.OK
		if b/16 > 9 || b%16 > 9 {
			want, wantErr = 0, api.ErrArg
		}
		if got, e := bits.Unpacked(byte(b)); got != want || e != wantErr {
			t.Errorf("Unpacked(%#x) = %d, %v; want %d, %v", b, got, e, want, wantErr)
		}
	}
}

// P307

func TestTheTable(t *testing.T) {
	table, rule := bits.Words(), bits.Rule()
	if len(table) != 256 || len(rule) != 256 {
		t.Fatalf("%d words, %d of the rule; want 256", len(table), len(rule))
	}
	for b := range uint32(256) {
		want := uint32(mathbits.OnesCount32(b))
		want |= want & 1 << 4
		want |= uint32(mathbits.Reverse8(byte(b))) << 8
		if b != 0 {
			want |= uint32(mathbits.TrailingZeros32(b)+1) << 16
		}
		want |= uint32(mathbits.Len32(b)) << 20
		if b>>4 <= 9 && b&15 <= 9 {
			want |= 1 << 24
		}
		wantWord(t, "the table's word", table[b], want)
		wantWord(t, "the rule's word", rule[b], want)
	}
	wantWord(t, "word 0", rule[0], 0x01000000)
	wantWord(t, "word 0x12", rule[0x12], 0x01524802)
	wantWord(t, "word 0xff", rule[0xff], 0x0081ff08)
}

func TestTheTableAndItsRuleAreWhatTheCallsTell(t *testing.T) {
	wantTold(t, bits.Words())
	wantTold(t, bits.Rule())
}

func wantTold(t *testing.T, table []uint32) {
	t.Helper()
	for v, word := range table {
		b := byte(v)
		wantInt(t, "Ones", bits.Ones(b), int(word&15))
		wantInt(t, "Parity", bits.Parity(b), int(word>>4&1))
		wantInt(t, "Reverse", int(bits.Reverse(b)), int(word>>8&255))
		wantInt(t, "Low", bits.Low(b), int(word>>16&15)-1)
		wantInt(t, "High", bits.High(b), int(word>>20&15)-1)
		if _, e := bits.Unpacked(b); (e == api.OK) != (word>>24 == 1) {
			t.Errorf("Unpacked(%#x) answers %v, and the table's word is %#x", b, e, word)
		}
	}
}

func TestTablesAreNew(t *testing.T) {
	for what, f := range map[string]func() []uint32{"Words": bits.Words, "Rule": bits.Rule} {
		first := f()
		want := slices.Clone(first)
		full := first[:cap(first)]
		for i := range full {
			full[i] = 77
		}
		if got := f(); !slices.Equal(got, want) {
			t.Errorf("%s is not new memory: %v", what, got)
		}
	}
	wantInt(t, "Ones behind a table that was written over", bits.Ones(0xb1), 4)
}
