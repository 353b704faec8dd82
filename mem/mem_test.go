package mem_test

import (
	"math/bits"
	"testing"

	"orrery/api"
	"orrery/ecc"
	"orrery/mem"
)

type (
	region   = mem.Region
	segments = []api.Segment
)

const (
	ram  = mem.Ram
	rom  = mem.Rom
	port = mem.Port
)

// noPlaces: below and above all places, with those that wrap round to one.
var noPlaces = []int{-1, 65536, 65537, -65536, 1 << 32, 1<<62 + 5, -1 << 63, 1<<63 - 1}

func made(t testing.TB, list ...region) *mem.Memory {
	t.Helper()
	m, e := mem.New(list)
	if m == nil || e != api.OK {
		t.Fatalf("New(%v): %v", list, e)
	}
	return m
}

// example: the chapter's memory; behind it there is nothing.
func example(t testing.TB) *mem.Memory {
	return made(t, region{0, 256, ram}, region{256, 512, rom}, region{512, 516, port})
}

// at: bytes at a place.
func at(place int, list ...byte) api.Segment { return api.Segment{At: place, Bytes: list} }

// positions: where the data bits of a cell stand: all places but the powers of two.
var positions = [8]int{3, 5, 6, 7, 9, 10, 11, 12}

// bitsOf: the thirteen bits of a cell with this byte, counted out by the words of chapter 10, with bit i standing for the bit that Turn calls i.
func bitsOf(b byte) int {
	cell := int(b)
	for i := range 4 {
		count := 0
		for bit, position := range positions {
			count += int(b) >> bit & (position >> i) & 1
		}
		cell |= count % 2 << (8 + i)
	}
	return cell | bits.OnesCount(uint(cell))%2<<12
}

// nearest: the byte whose cell is unlike this one in at most one bit.
func nearest(cell int) (byte, bool) {
	for b := range 256 {
		if bits.OnesCount(uint(cell^bitsOf(byte(b)))) <= 1 {
			return byte(b), true
		}
	}
	return 0, false
}

func wordOf(cell int) ecc.Word { return ecc.Word{Data: uint64(cell & 255), Check: uint8(cell >> 8)} }

func want(t testing.TB, what string, got, want api.Errno) {
	t.Helper()
	if got != want {
		t.Errorf("%s: %v, not %v", what, got, want)
	}
}

func wantRead(t testing.TB, what string, m *mem.Memory, at int, want byte) {
	t.Helper()
	if b, e := m.Read(at); b != want || e != api.OK {
		t.Errorf("%s: Read(%d): %d, %v, not %d", what, at, b, e, want)
	}
}

func wantNoRead(t testing.TB, what string, m *mem.Memory, at int, want api.Errno) {
	t.Helper()
	if b, e := m.Read(at); b != 0 || e != want {
		t.Errorf("%s: Read(%d): %d, %v, not %v", what, at, b, e, want)
	}
}

func wantPeek(t testing.TB, what string, m *mem.Memory, at int, want byte) {
	t.Helper()
	if b, e := m.Peek(at); b != want || e != api.OK {
		t.Errorf("%s: Peek(%d): %d, %v, not %d", what, at, b, e, want)
	}
}

func wantNoPeek(t testing.TB, what string, m *mem.Memory, at int, want api.Errno) {
	t.Helper()
	if b, e := m.Peek(at); b != 0 || e != want {
		t.Errorf("%s: Peek(%d): %d, %v, not %v", what, at, b, e, want)
	}
}

// wantCell: the thirteen bits, as they are.
func wantCell(t testing.TB, what string, m *mem.Memory, at, cell int) {
	t.Helper()
	if w, e := m.Cell(at); w != wordOf(cell) || e != api.OK {
		t.Errorf("%s: Cell(%d): %v, %v, not %v", what, at, w, e, wordOf(cell))
	}
}

func wantNoCell(t testing.TB, what string, m *mem.Memory, at int, want api.Errno) {
	t.Helper()
	if w, e := m.Cell(at); w != (ecc.Word{}) || e != want {
		t.Errorf("%s: Cell(%d): %v, %v, not %v", what, at, w, e, want)
	}
}

func wantCounts(t testing.TB, what string, m *mem.Memory, mended, lost int) {
	t.Helper()
	if a, b := m.Counts(); a != mended || b != lost {
		t.Errorf("%s: Counts: %d, %d, not %d, %d", what, a, b, mended, lost)
	}
}

func wantScrub(t testing.TB, what string, m *mem.Memory, mended, lost int) {
	t.Helper()
	if a, b := m.Scrub(); a != mended || b != lost {
		t.Errorf("%s: Scrub: %d, %d, not %d, %d", what, a, b, mended, lost)
	}
}

// turn: bits that must be there.
func turn(t testing.TB, m *mem.Memory, at int, list ...int) {
	t.Helper()
	for _, bit := range list {
		if e := m.Turn(at, bit); e != api.OK {
			t.Fatalf("Turn(%d, %d): %v", at, bit, e)
		}
	}
}

// lay: a byte at a place of RAM or ROM.
func lay(t testing.TB, m *mem.Memory, place int, b byte) {
	t.Helper()
	if e := m.Load(segments{at(place, b)}); e != api.OK {
		t.Fatalf("Load(%d: %d): %v", place, b, e)
	}
}

// The chapter's examples.
func TestExamples(t *testing.T) {
	m := example(t)
	want(t, "Write(5, 7)", m.Write(5, 7), api.OK)
	wantRead(t, "first", m, 5, 7)
	want(t, "Write(300, 1)", m.Write(300, 1), api.ErrRom)
	wantNoRead(t, "first", m, 600, api.ErrBus)
	wantNoRead(t, "first", m, -1, api.ErrArg)
	if m.Kind(512) != 3 {
		t.Error(m.Kind(512))
	}
	turn(t, m, 5, 0)
	wantRead(t, "second", m, 5, 7)
	wantCounts(t, "second", m, 1, 0)
	turn(t, m, 5, 0, 3)
	wantNoRead(t, "second", m, 5, api.ErrParity)
	wantCounts(t, "second", m, 1, 1)
	want(t, "Write(5, 9)", m.Write(5, 9), api.OK)
	wantRead(t, "second", m, 5, 9)
	want(t, "Load", m.Load(segments{at(255, 1, 2)}), api.OK)
	wantRead(t, "third", m, 255, 1)
	wantRead(t, "third", m, 256, 2)
	want(t, "Load", m.Load(segments{at(511, 1, 2)}), api.ErrBus)
	wantRead(t, "fourth", m, 512, 255)
	var told []int
	put := func(reg int, b byte) { told = append(told, reg, int(b)) }
	want(t, "Attach(512)", m.Attach(512, nil, put), api.OK)
	want(t, "Write(514, 8)", m.Write(514, 8), api.OK)
	if len(told) != 2 || told[0] != 2 || told[1] != 8 {
		t.Error(told)
	}
	want(t, "Attach(513)", m.Attach(513, nil, put), api.ErrArg)
	wantRead(t, "fourth", m, 512, 255)
}

// The words of chapter 10, by which these tests count, are those of package ecc.
func TestBitsOf(t *testing.T) {
	if bitsOf(1) != 1|19<<8 || bitsOf(0) != 0 {
		t.Fatalf("%x, %x", bitsOf(1), bitsOf(0))
	}
	for b := range 256 {
		if w, e := ecc.Encode(8, uint64(b)); w != wordOf(bitsOf(byte(b))) || e != api.OK {
			t.Errorf("Encode(8, %d): %v, %v, not %v", b, w, e, wordOf(bitsOf(byte(b))))
		}
	}
}
