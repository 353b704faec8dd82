package mem_test

import (
	"fmt"
	"testing"

	"orrery/api"
)

// P2303: of no place, of nothing, of RAM, of ROM.
func TestReadAndWrite(t *testing.T) {
	m := made(t, region{0, 100, ram}, region{100, 200, rom}, region{300, 310, port}, region{65000, 65536, ram})
	for _, place := range noPlaces {
		wantNoRead(t, "no place", m, place, api.ErrArg)
		wantNoPeek(t, "no place", m, place, api.ErrArg)
		want(t, fmt.Sprintf("Write(%d)", place), m.Write(place, 1), api.ErrArg)
	}
	for _, place := range []int{200, 201, 299, 310, 64999} {
		wantNoRead(t, "nothing", m, place, api.ErrBus)
		wantNoPeek(t, "nothing", m, place, api.ErrBus)
		want(t, fmt.Sprintf("Write(%d)", place), m.Write(place, 1), api.ErrBus)
	}
	for _, place := range []int{100, 101, 150, 199} {
		lay(t, m, place, byte(place))
		want(t, fmt.Sprintf("Write(%d)", place), m.Write(place, 1), api.ErrRom)
		wantRead(t, "ROM", m, place, byte(place))
		wantPeek(t, "ROM", m, place, byte(place))
		wantCell(t, "ROM", m, place, bitsOf(byte(place)))
	}
	for _, place := range []int{0, 1, 99, 65000, 65535} {
		want(t, fmt.Sprintf("Write(%d)", place), m.Write(place, byte(place)+3), api.OK)
		wantRead(t, "RAM", m, place, byte(place)+3)
		wantPeek(t, "RAM", m, place, byte(place)+3)
		wantCell(t, "RAM", m, place, bitsOf(byte(place)+3))
	}
	for _, place := range []int{2, 98, 65001, 65534} {
		wantRead(t, "beside", m, place, 0)
	}
	wantCounts(t, "no bit was turned", m, 0, 0)
}

// P2303: without a region there is no place that has something.
func TestNoRegions(t *testing.T) {
	m := made(t)
	for place := range 65536 {
		wantNoRead(t, "no regions", m, place, api.ErrBus)
		wantNoPeek(t, "no regions", m, place, api.ErrBus)
		wantNoCell(t, "no regions", m, place, api.ErrBus)
	}
	want(t, "Write", m.Write(0, 1), api.ErrBus)
	wantNoRead(t, "no regions", m, -1, api.ErrArg)
	wantScrub(t, "no regions", m, 0, 0)
}

// P2303: every byte, written and read.
func TestEveryByte(t *testing.T) {
	m := made(t, region{7, 8, ram})
	for _, before := range []byte{0, 255, 0x5a} {
		for b := range 256 {
			want(t, "Write", m.Write(7, before), api.OK)
			want(t, "Write", m.Write(7, byte(b)), api.OK)
			wantCell(t, "written", m, 7, bitsOf(byte(b)))
			wantRead(t, "written", m, 7, byte(b))
		}
	}
}

// P2303, P2304, P2307: any one bit of a cell turned, in RAM and in ROM; Peek leaves it, Read mends it.
func TestOneBit(t *testing.T) {
	m := made(t, region{0, 10, ram}, region{10, 20, rom})
	mended := 0
	for _, place := range []int{9, 10} {
		for b := range 256 {
			for bit := range 13 {
				lay(t, m, place, byte(b))
				turn(t, m, place, bit)
				wantCell(t, "turned", m, place, bitsOf(byte(b))^1<<bit)
				wantPeek(t, "turned", m, place, byte(b))
				wantPeek(t, "turned", m, place, byte(b))
				wantCell(t, "looked at", m, place, bitsOf(byte(b))^1<<bit)
				wantCounts(t, "looked at", m, mended, 0)
				wantRead(t, "turned", m, place, byte(b))
				mended++
				wantCell(t, "mended", m, place, bitsOf(byte(b)))
				wantCounts(t, "mended", m, mended, 0)
				wantRead(t, "mended", m, place, byte(b))
				wantCounts(t, "read again", m, mended, 0)
			}
		}
	}
}

// P2303, P2304, P2307: any two bits of a cell turned are told by each reading, and stay.
func TestTwoBits(t *testing.T) {
	m := made(t, region{0, 10, ram}, region{10, 20, rom})
	lost := 0
	for _, b := range []byte{0, 1, 7, 0x5a, 0x80, 0xff} {
		for first := range 13 {
			for second := range first {
				place := 9 + lost/2%2
				lay(t, m, place, b)
				turn(t, m, place, first, second)
				cell := bitsOf(b) ^ 1<<first ^ 1<<second
				wantNoPeek(t, "two bits", m, place, api.ErrParity)
				wantCounts(t, "looked at", m, 0, lost)
				wantNoRead(t, "two bits", m, place, api.ErrParity)
				wantCell(t, "lost", m, place, cell)
				wantNoRead(t, "two bits", m, place, api.ErrParity)
				lost += 2
				wantCounts(t, "lost", m, 0, lost)
				turn(t, m, place, second)
				wantPeek(t, "one bit", m, place, b)
				turn(t, m, place, second)
			}
		}
	}
}

// P2303: what is written does not hang on what the cell was.
func TestWriteOverTurned(t *testing.T) {
	m := made(t, region{0, 10, ram})
	for first := range 13 {
		for second := range 13 {
			want(t, "Write", m.Write(3, 0x61), api.OK)
			turn(t, m, 3, first, second)
			want(t, "Write", m.Write(3, 0x16), api.OK)
			wantCell(t, "written over", m, 3, bitsOf(0x16))
			wantRead(t, "written over", m, 3, 0x16)
		}
	}
	wantCounts(t, "written over", m, 0, 0)
}

// P2303: ROM that is lost is not written either.
func TestWriteOverLostRom(t *testing.T) {
	m := made(t, region{0, 10, rom})
	lay(t, m, 3, 0x61)
	turn(t, m, 3, 2, 11)
	want(t, "Write", m.Write(3, 0x61), api.ErrRom)
	wantCell(t, "refused", m, 3, bitsOf(0x61)^1<<2^1<<11)
	wantCounts(t, "refused", m, 0, 0)
}

// P2307: at the most one bit a cell between two readings of it, as often as there are bits.
func TestBearsOneAfterAnother(t *testing.T) {
	m := made(t, region{0, 64, ram})
	for place := range 64 {
		want(t, "Write", m.Write(place, byte(5*place)), api.OK)
	}
	for round := range 40 {
		for place := range 64 {
			turn(t, m, place, (place*7+round*5)%13)
		}
		for place := range 64 {
			wantRead(t, "turned", m, place, byte(5*place))
		}
	}
	wantCounts(t, "turned", m, 40*64, 0)
}

// P2303: three turned bits are what the nearest cell tells, all thirteen too.
func TestMoreBits(t *testing.T) {
	m := made(t, region{0, 1, ram})
	mended, lost := 0, 0
	for cell := range 1 << 13 {
		want(t, "Lay", m.Lay(0, wordOf(cell)), api.OK)
		b, found := nearest(cell)
		if !found {
			lost++
			wantNoPeek(t, "any cell", m, 0, api.ErrParity)
			wantNoRead(t, "any cell", m, 0, api.ErrParity)
			wantCell(t, "any cell", m, 0, cell)
		} else {
			wantPeek(t, "any cell", m, 0, b)
			wantRead(t, "any cell", m, 0, b)
			wantCell(t, "any cell", m, 0, bitsOf(b))
			if cell != bitsOf(b) {
				mended++
			}
		}
		wantCounts(t, "any cell", m, mended, lost)
	}
	if mended != 256*13 || lost != 1<<13-256*14 {
		t.Error(mended, lost)
	}
}
