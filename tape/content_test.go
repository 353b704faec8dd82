package tape_test

import (
	"bytes"
	"math"
	"testing"

	"orrery/api"
	"orrery/tape"
)

func wantContent(t *testing.T, f frame, want []byte) {
	t.Helper()
	if got, e := tape.Content(f); !bytes.Equal(got, want) || e != api.OK {
		t.Errorf("Content(%v): % x, %v, not % x", f, got, e, want)
	}
}

// wantPacked: Content and Pack are what the chapter's words make of it.
func wantPacked(t *testing.T, f frame) {
	t.Helper()
	wantContent(t, f, contentAgain(f))
	if got, e := tape.Pack(f); !bytes.Equal(got, packAgain(f)) || e != api.OK {
		t.Errorf("Pack(%v): % x, %v, not % x", f, got, e, packAgain(f))
	}
}

func wantNoFrame(t *testing.T, f frame) {
	t.Helper()
	if got, e := tape.Content(f); len(got) != 0 || e != api.ErrArg {
		t.Errorf("Content(%v): %d bytes, %v, not ErrArg", f, len(got), e)
	}
	if got, e := tape.Pack(f); len(got) != 0 || e != api.ErrArg {
		t.Errorf("Pack(%v): %d bytes, %v, not ErrArg", f, len(got), e)
	}
}

// F22.1: each part of a content stands where the chapter puts it. The sums are those of zlib's crc32.
func TestContentByHand(t *testing.T) {
	payload := []byte{0xde, 0xad, 0xbe}
	want := append([]byte{'O', 'T', 0, 0x12, 0x34, 0xab, 0xcd, 0xfe, 0xdc, 3, 0xde, 0xad, 0xbe}, make([]byte, 175)...)
	wantContent(t, dataFrame(0x1234, 0xabcd, 0xfedc, payload...), append(want, 0x22, 0x12, 0xfc, 0x70))
	want = append([]byte{0x4f, 0x54, 1, 0xab, 0xcc, 0xab, 0xcd, 0xff, 0xff, 0}, make([]byte, 178)...)
	wantContent(t, end(0xabcd, 0xffff), append(want, 0x8b, 0x73, 0xe3, 0x7e))
}

// F22.1: all kinds, numbers and lengths at their edges, with one another.
func TestFramesAtTheEdges(t *testing.T) {
	numbers := []int{-1, 0, 1, 2, 255, 256, 65534, 65535, 65536}
	places := []int{-1, 0, 1, 65536 - 179, 65536 - 178, 65536 - 177, 65535, 65536}
	right := 0
	for _, kind := range []int{-1, 0, 1, 2} {
		for _, number := range numbers {
			for _, all := range numbers {
				for _, place := range places {
					for _, size := range []int{0, 1, 2, 177, 178, 179} {
						f := frame{kind, number, all, place, many(size)}
						if isAgain(f) {
							right++
							wantPacked(t, f)
						} else {
							wantNoFrame(t, f)
						}
					}
				}
			}
		}
	}
	if right < 400 {
		t.Errorf("only %d were frames", right)
	}
}

// F22.1: the same edges by hand, each by itself.
func TestFramesByHand(t *testing.T) {
	for _, f := range []frame{
		end(1, 0), end(65535, 65535), dataFrame(0, 2, 0), dataFrame(0, 65535, 65535), dataFrame(65533, 65535, 0, 1),
		dataFrame(0, 2, 65535, 1), dataFrame(0, 2, 65536-178, many(178)...), {Kind: 1, All: 1, Payload: []byte{}},
	} {
		wantPacked(t, f)
	}
	for _, f := range []frame{
		{}, end(0, 0), end(-1, 0), end(65536, 0), end(1, -1), end(1, 65536),
		{Kind: 2, All: 1}, {Kind: -1, All: 1}, {Kind: 2, All: 2}, {Kind: 257, All: 1}, {Kind: 256, All: 2}, {Kind: 1, All: 1, Payload: []byte{0}},
		{Kind: 1, Number: 0, All: 2}, {Kind: 1, Number: 1, All: 1}, {Kind: 1, Number: 2, All: 1}, {Kind: 1, Number: -1, All: 0},
		dataFrame(0, 1, 0, 1), dataFrame(1, 2, 0, 1), dataFrame(2, 2, 0, 1), dataFrame(3, 2, 0, 1), dataFrame(-1, 2, 0, 1), dataFrame(0, 0, 0, 1),
		dataFrame(0, 65536, 0, 1), dataFrame(65536, 65538, 0, 1), dataFrame(0, 2, 65536), dataFrame(0, 2, -1), dataFrame(0, 2, -1, 1),
		dataFrame(0, 2, 65535, 1, 2), dataFrame(0, 2, 65536-177, many(178)...), dataFrame(0, 2, 0, many(179)...), dataFrame(0, 2, 0, many(256+5)...),
	} {
		wantNoFrame(t, f)
	}
}

// F22.1, rules 1 and 6: numbers at the ends of their type.
func TestFramesOfHugeNumbers(t *testing.T) {
	for _, n := range []int{math.MinInt, math.MinInt + 1, -65536, 65536 * 65536, math.MaxInt - 1, math.MaxInt} {
		wantNoFrame(t, dataFrame(n, 2, 0, 1))
		wantNoFrame(t, dataFrame(0, n, 0, 1))
		wantNoFrame(t, dataFrame(0, 2, n, 1))
		wantNoFrame(t, frame{Kind: n, All: 1})
		wantNoFrame(t, frame{Kind: n, All: 2})
		wantNoFrame(t, frame{Kind: 1, Number: n, All: 1})
		wantNoFrame(t, end(n, 0))
		wantNoFrame(t, end(1, n))
	}
}

// F22.1: payloads of all lengths, of noughts and of all bytes.
func TestPayloads(t *testing.T) {
	for size := range 179 {
		wantPacked(t, dataFrame(size, 65535, 300*size, many(size)...))
		wantPacked(t, dataFrame(size, 200, 65536-size-1, make([]byte, size)...))
		wantPacked(t, dataFrame(7, 9, 65536-178, bytes.Repeat([]byte{byte(255 - size)}, size)...))
	}
}
