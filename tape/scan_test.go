package tape_test

import (
	"bytes"
	"math/rand"
	"slices"
	"testing"

	"orrery/tape"
)

var (
	first  = dataFrame(0, 3, 0x200, many(178)...)
	second = dataFrame(1, 3, 0x300, many(5)...)
	third  = end(3, 0x200)
)

// noise: bytes with nothing like a mark in them.
func noise(n int) []byte { return bytes.Repeat([]byte{0x11}, n) }

// F22.3: nothing, bytes without a frame, parts of one.
func TestScanNothing(t *testing.T) {
	b := packed(t, first)
	for what, list := range map[string][]byte{
		"nothing": nil, "no bytes": {}, "a byte": {0x55}, "a mark": b[:4], "noise": noise(1000), "noughts": make([]byte, 1000),
		"all but its last byte": b[:259], "all but its first": b[1:], "its second half": b[130:], "half of it, twice": append(slices.Clone(b[:130]), b[:130]...),
		"marks": bytes.Repeat(b[:4], 300), "near to marks": bytes.Repeat([]byte{0x55, 0xaa}, 600),
	} {
		wantScan(t, what, list, nil)
	}
}

// F22.3: frames with bytes ahead, between, behind.
func TestScan(t *testing.T) {
	a, b, c := packed(t, first), packed(t, second), packed(t, third)
	wantScan(t, "one", a, []frame{first}, 0)
	wantScan(t, "three", slices.Concat(a, b, c), []frame{first, second, third}, 0, 260, 520)
	wantScan(t, "out of order, twice", slices.Concat(c, a, a, b), []frame{third, first, first, second}, 0, 260, 520, 780)
	for _, n := range []int{1, 2, 3, 4, 255, 259, 260, 261, 1000} {
		wantScan(t, "noise around", slices.Concat(noise(n), a, noise(n), b, noise(n)), []frame{first, second}, n, 2*n+260)
		wantScan(t, "noise between", slices.Concat(a, noise(n), noise(n), c), []frame{first, third}, 0, 2*n+260)
	}
	for _, n := range []int{1, 3, 4, 130, 200} { // of more the bytes behind would make a frame that can be mended
		wantScan(t, "a part at the end", slices.Concat(a, b, c[:n]), []frame{first, second}, 0, 260)
		wantScan(t, "a part ahead", slices.Concat(c[:n], a, b), []frame{first, second}, n, n+260)
		wantScan(t, "a part between", slices.Concat(a, c[n:], b), []frame{first, second}, 0, 520-n)
	}
	wantScan(t, "all but a byte at the end", slices.Concat(a, b, c[:259]), []frame{first, second}, 0, 260)
}

// F22.3: a mark ahead of a mark, and marks among bytes, do not hide a frame.
func TestScanMarks(t *testing.T) {
	a := packed(t, first)
	wantScan(t, "marks ahead", slices.Concat(a[:4], a[:4], a[:3], a), []frame{first}, 11)
	wantScan(t, "near to marks ahead", slices.Concat(bytes.Repeat([]byte{0x55, 0xaa}, 200), a), []frame{first}, 400)
	marks := dataFrame(0, 3, 0, bytes.Repeat(a[:4], 44)...)
	wantScan(t, "marks as a payload", slices.Concat(packed(t, marks), a), []frame{marks, first}, 0, 260)
}

// F22.3: a frame that can be read within another one's bytes is not told, since it goes on behind that one.
func TestScanWithin(t *testing.T) {
	a, b, c := packed(t, first), packed(t, second), packed(t, third)
	over := slices.Concat(a[:228], b)
	if f, can := canBeRead(over[228:]); !can || !sameFrame(f, second) {
		t.Fatal("the one within can not be read")
	}
	wantScan(t, "its last 32 bytes are another one's", over, []frame{first}, 0)
	wantScan(t, "and one behind", slices.Concat(over, c), []frame{first, third}, 0, 228+260)
	wantScan(t, "and one over that one's end", slices.Concat(over[:228+228], c), []frame{first, third}, 0, 228+228)
	wantScan(t, "its last 33 bytes are another one's", slices.Concat(a[:227], b), []frame{second}, 227)
	wantScan(t, "and one behind", slices.Concat(a[:227], b, c), []frame{second, third}, 227, 227+260)
}

// F22.3: a damaged frame is passed over byte by byte, so that a whole one within it is told.
func TestScanDamaged(t *testing.T) {
	a, b, c := packed(t, first), packed(t, second), packed(t, third)
	for _, n := range []int{4, 100, 200, 226} {
		wantScan(t, "one within", slices.Concat(a[:n], b, a[n:]), []frame{second}, n)
		wantScan(t, "one within, and one behind", slices.Concat(a[:n], b, a[n:], c), []frame{second, third}, n, 520)
	}
	chance := rand.New(rand.NewSource(2206))
	bad := turned(chance, a, from(50, 33)...)
	wantScan(t, "33 bytes turned", slices.Concat(bad, b), []frame{second}, 260)
	wantScan(t, "33 bytes turned", slices.Concat(b, bad, c), []frame{second, third}, 0, 520)
	mended := turned(chance, a, from(50, 32)...)
	wantScan(t, "32 bytes turned", slices.Concat(b, mended, c), []frame{second, first, third}, 0, 260, 520)
}

// pieces: made-up tapes of whole, turned, broken and half frames, with bytes between.
func pieces(t testing.TB, chance *rand.Rand, frames []frame) []byte {
	t.Helper()
	var b []byte
	for range chance.Intn(8) {
		one := packed(t, frames[chance.Intn(len(frames))])
		switch chance.Intn(8) {
		case 0:
			one = one[:chance.Intn(260)]
		case 1:
			one = one[chance.Intn(260):]
		case 2:
			one = turned(chance, one, chance.Perm(260)[:chance.Intn(60)]...)
		case 3:
			one = turned(chance, one, from(4+chance.Intn(220), 1+chance.Intn(36))...)
		case 4:
			one, _ = markTurned(one, chance.Perm(32)[:chance.Intn(7)]...)
		case 5:
			one = append(noise(chance.Intn(9)), one...)
		}
		if cut := chance.Intn(40); chance.Intn(4) == 0 && len(b) >= cut { // over the last one's end
			b = b[:len(b)-cut]
		}
		b = append(b, one...)
	}
	return b
}

// F22.3: made-up tapes, held against a second reading.
func TestScanAgain(t *testing.T) {
	chance := rand.New(rand.NewSource(2207))
	told := 0
	for range 400 {
		b := pieces(t, chance, []frame{first, second, third, end(1, 9)})
		list, places := scanAgain(b)
		told += len(list)
		wantScan(t, "made up", b, list, places...)
	}
	if told < 400 {
		t.Errorf("%d frames on 400 tapes: the chance is too poor", told)
	}
}

// F22.3: what Scan tells of a place is what Unpack tells.
func TestScanIsUnpack(t *testing.T) {
	chance := rand.New(rand.NewSource(2208))
	for range 100 {
		b := pieces(t, chance, []frame{first, second, third})
		list, places := tape.Scan(b)
		for n, place := range places {
			wantUnpack(t, "a place of Scan", b[place:place+260], list[n], apart(b[place:place+260], packAgain(list[n])))
		}
	}
}
