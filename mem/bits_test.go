package mem_test

import (
	"fmt"
	"testing"

	"orrery/api"
	"orrery/ecc"
)

var noBits = []int{-1, 13, 14, 64, -13, 1 << 32, -1 << 63, 1<<63 - 1}

// P2305: each bit of each kind's cell, there and back, at both ends of a region.
func TestTurn(t *testing.T) {
	m := loadable(t)
	for _, place := range []int{0, 99, 100, 199, 310, 65535} {
		lay(t, m, place, 0xc5)
		cell := bitsOf(0xc5)
		for bit := range 13 {
			want(t, "Turn", m.Turn(place, bit), api.OK)
			cell ^= 1 << bit
			wantCell(t, "turned", m, place, cell)
		}
		for bit := range 13 {
			want(t, "Turn", m.Turn(place, bit), api.OK)
		}
		wantCell(t, "turned back", m, place, bitsOf(0xc5))
	}
	wantCell(t, "beside", m, 1, bitsOf(0))
	wantCounts(t, "turned", m, 0, 0)
}

// P2305: ErrArg of place or bit goes ahead of ErrBus.
func TestTurnErrors(t *testing.T) {
	m := loadable(t)
	for _, place := range noPlaces {
		for _, bit := range append([]int{0, 12}, noBits...) {
			want(t, fmt.Sprintf("Turn(%d, %d)", place, bit), m.Turn(place, bit), api.ErrArg)
		}
	}
	for _, place := range []int{0, 100, 199, 200, 300, 305, 309, 320, 64999, 65535} {
		for _, bit := range noBits {
			want(t, fmt.Sprintf("Turn(%d, %d)", place, bit), m.Turn(place, bit), api.ErrArg)
		}
	}
	for _, place := range []int{200, 299, 300, 305, 309, 320, 64999} {
		for bit := range 13 {
			want(t, fmt.Sprintf("Turn(%d, %d)", place, bit), m.Turn(place, bit), api.ErrBus)
		}
	}
	if !m.Same(loadable(t)) {
		t.Error("a Turn that is refused changes a cell")
	}
}

// P2305: none, one, two turned bits in cells of all regions, at their ends; and once more.
func TestScrub(t *testing.T) {
	m := loadable(t)
	wantScrub(t, "none", m, 0, 0)
	for place := range 65536 {
		if _, e := m.Cell(place); e == api.OK {
			lay(t, m, place, byte(place*3))
		}
	}
	ones := []int{0, 50, 99, 100, 199, 310, 319, 65000, 65535}
	twos := []int{1, 98, 101, 198, 311, 65001, 65534}
	for i, place := range ones {
		turn(t, m, place, (i*3)%13)
	}
	for i, place := range twos {
		turn(t, m, place, i, i+6)
	}
	wantScrub(t, "first", m, len(ones), len(twos))
	wantCounts(t, "first", m, len(ones), len(twos))
	for _, place := range ones {
		wantCell(t, "mended", m, place, bitsOf(byte(place*3)))
	}
	for i, place := range twos {
		wantCell(t, "lost", m, place, bitsOf(byte(place*3))^1<<i^1<<(i+6))
	}
	wantScrub(t, "second", m, 0, len(twos))
	wantCounts(t, "second", m, len(ones), 2*len(twos))
	wantBytes(t, "not turned", m, 2, 6, 9, 12)
	for _, place := range twos {
		lay(t, m, place, 1)
	}
	wantScrub(t, "third", m, 0, 0)
	wantCounts(t, "third", m, len(ones), 2*len(twos))
}

// P2305: Read and Scrub count together, all other calls nothing.
func TestCounts(t *testing.T) {
	m := example(t)
	turn(t, m, 5, 1)
	turn(t, m, 6, 1, 2)
	turn(t, m, 300, 9)
	turn(t, m, 301, 9, 10)
	calls := func() {
		m.Peek(5)
		m.Peek(6)
		m.Peek(300)
		m.Cell(6)
		m.Same(m)
		m.Kind(6)
		m.Regions()
		m.Write(7, 1)
		m.Load(segments{at(8, 1, 2)})
		m.Lay(9, wordOf(5))
		m.Read(600)
		m.Read(-1)
		m.Read(512)
		m.Write(300, 4)
	}
	calls()
	wantCounts(t, "none", m, 0, 0)
	wantRead(t, "one", m, 5, 0)
	wantCounts(t, "one", m, 1, 0)
	wantNoRead(t, "two", m, 6, api.ErrParity)
	wantCounts(t, "two", m, 1, 1)
	wantRead(t, "ROM", m, 300, 0)
	wantNoRead(t, "ROM", m, 301, api.ErrParity)
	wantCounts(t, "ROM", m, 2, 2)
	calls()
	wantCounts(t, "looked at", m, 2, 2)
	m.Lay(9, wordOf(bitsOf(0)))
	turn(t, m, 5, 4)
	wantScrub(t, "scrubbed", m, 1, 2)
	wantCounts(t, "scrubbed", m, 3, 4)
	wantNoRead(t, "two", m, 6, api.ErrParity)
	wantScrub(t, "scrubbed", m, 0, 2)
	wantCounts(t, "scrubbed", m, 3, 7)
}

// P2306: any word that is valid, as it is, in RAM and ROM.
func TestCellAndLay(t *testing.T) {
	m := loadable(t)
	for _, place := range []int{0, 99, 100, 65535} {
		for cell := 0; cell < 1<<13; cell += 7 {
			want(t, "Lay", m.Lay(place, wordOf(cell)), api.OK)
			wantCell(t, "laid", m, place, cell)
		}
		want(t, "Lay", m.Lay(place, ecc.Word{Data: 255, Check: 31}), api.OK)
		wantCell(t, "laid", m, place, 1<<13-1)
		wantCell(t, "beside", m, 50, bitsOf(0))
	}
	wantCounts(t, "laid", m, 0, 0)
	m = loadable(t)
	want(t, "Lay", m.Lay(5, wordOf(bitsOf(0x77)^1<<4)), api.OK)
	wantRead(t, "laid", m, 5, 0x77)
	wantCell(t, "mended", m, 5, bitsOf(0x77))
	wantCounts(t, "mended", m, 1, 0)
}

// P2306: ErrArg of place or word goes ahead of ErrBus; a cell stays then.
func TestCellAndLayErrors(t *testing.T) {
	m := loadable(t)
	wrong := []ecc.Word{{Data: 256}, {Check: 32}, {Data: 256, Check: 32}, {Data: 1 << 63}, {Data: 1<<64 - 1, Check: 255}, {Data: 5, Check: 128}, {Data: 1 << 8, Check: 3}}
	right := []ecc.Word{{}, {Data: 1, Check: 19}, {Data: 255, Check: 31}, {Data: 1}}
	for _, place := range noPlaces {
		wantNoCell(t, "no place", m, place, api.ErrArg)
		for _, w := range append(wrong, right...) {
			want(t, fmt.Sprintf("Lay(%d, %v)", place, w), m.Lay(place, w), api.ErrArg)
		}
	}
	for _, place := range []int{0, 100, 199, 200, 300, 305, 309, 320, 64999, 65535} {
		for _, w := range wrong {
			want(t, fmt.Sprintf("Lay(%d, %v)", place, w), m.Lay(place, w), api.ErrArg)
		}
	}
	for _, place := range []int{200, 299, 300, 305, 309, 320, 64999} {
		wantNoCell(t, "no cell", m, place, api.ErrBus)
		for _, w := range right {
			want(t, fmt.Sprintf("Lay(%d, %v)", place, w), m.Lay(place, w), api.ErrBus)
		}
	}
	if !m.Same(loadable(t)) {
		t.Error("a Lay that is refused changes a cell")
	}
}
