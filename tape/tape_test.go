package tape_test

import (
	"bytes"
	"math/rand"
	"reflect"
	"slices"
	"testing"

	"orrery/api"
	"orrery/tape"
)

type (
	segments = []api.Segment
	image    = tape.Image
	report   = tape.Report
	frame    = tape.Frame
)

// at: bytes at a place.
func at(place int, list ...byte) api.Segment { return api.Segment{At: place, Bytes: list} }

// many: so many bytes, none of them like its neighbours.
func many(n int) []byte {
	list := make([]byte, n)
	for i := range list {
		list[i] = byte(i*7 + i>>8 + 1)
	}
	return list
}

func dataFrame(number, all, place int, payload ...byte) frame {
	return frame{Kind: 0, Number: number, All: all, At: place, Payload: payload}
}

// end: the last one of so many.
func end(all, entry int) frame { return frame{Kind: 1, Number: all - 1, All: all, At: entry} }

// packed: frames that must be, one behind the other.
func packed(t testing.TB, list ...frame) []byte {
	t.Helper()
	var whole []byte
	for _, f := range list {
		b, e := tape.Pack(f)
		if e != api.OK || len(b) != 260 {
			t.Fatalf("Pack(%v): %d bytes, %v", f, len(b), e)
		}
		whole = append(whole, b...)
	}
	return whole
}

func written(t testing.TB, i image, copies int) []byte {
	t.Helper()
	b, e := tape.Write(i, copies)
	if e != api.OK {
		t.Fatalf("Write(%d segments, entry %d; %d): %v", len(i.Segments), i.Entry, copies, e)
	}
	return b
}

// turned: a copy, of which each byte at the places is another one.
func turned(chance *rand.Rand, b []byte, places ...int) []byte {
	b = bytes.Clone(b)
	for _, place := range places {
		b[place] ^= byte(1 + chance.Intn(255))
	}
	return b
}

// from: n places from one on.
func from(place, n int) []int {
	list := make([]int, n)
	for i := range list {
		list[i] = place + i
	}
	return list
}

// Rule 3 of the document leaves open whether a list without an element is nil.
func sameFrame(a, b frame) bool {
	return a.Kind == b.Kind && a.Number == b.Number && a.All == b.All && a.At == b.At && bytes.Equal(a.Payload, b.Payload)
}

func sameFrames(a, b []frame) bool { return slices.EqualFunc(a, b, sameFrame) }

func sameSegments(a, b segments) bool {
	return slices.EqualFunc(a, b, func(x, y api.Segment) bool { return x.At == y.At && bytes.Equal(x.Bytes, y.Bytes) })
}

func sameImage(a, b image) bool { return a.Entry == b.Entry && sameSegments(a.Segments, b.Segments) }

func sameReport(a, b report) bool {
	return a.Frames == b.Frames && a.Mended == b.Mended && a.Bad == b.Bad && slices.Equal(a.Lost, b.Lost)
}

func wantUnpack(t *testing.T, what string, b []byte, want frame, wantMended int) {
	t.Helper()
	f, mended, e := tape.Unpack(b)
	if !sameFrame(f, want) || mended != wantMended || e != api.OK {
		t.Errorf("%s: Unpack: %v, %d, %v, not %v, %d", what, f, mended, e, want, wantMended)
	}
}

func wantNoUnpack(t *testing.T, what string, b []byte) {
	t.Helper()
	f, mended, e := tape.Unpack(b)
	if !reflect.DeepEqual(f, frame{}) || mended != 0 || e != api.ErrTape {
		t.Errorf("%s: Unpack: %v, %d, %v, not ErrTape", what, f, mended, e)
	}
}

func wantNoWrite(t *testing.T, i image, copies int, want api.Errno) {
	t.Helper()
	b, e := tape.Write(i, copies)
	if len(b) != 0 || e != want {
		t.Errorf("Write(%d segments, entry %d; %d): %d bytes, %v, not %v", len(i.Segments), i.Entry, copies, len(b), e, want)
	}
}

// wantScan: each frame at its place.
func wantScan(t *testing.T, what string, b []byte, want []frame, wantPlaces ...int) {
	t.Helper()
	list, places := tape.Scan(b)
	if !sameFrames(list, want) || !slices.Equal(places, wantPlaces) {
		t.Errorf("%s: Scan: %v at %v, not %v at %v", what, list, places, want, wantPlaces)
	}
}

func wantRead(t *testing.T, what string, b []byte, want image, wantReport report) {
	t.Helper()
	i, r, e := tape.Read(b)
	if !sameImage(i, want) || !sameReport(r, wantReport) || e != api.OK {
		t.Errorf("%s: Read: %d segments, entry %d, %v, %v, not %d, %d, %v", what, len(i.Segments), i.Entry, r, e, len(want.Segments), want.Entry, wantReport)
	}
}

func wantNoRead(t *testing.T, what string, b []byte, wantReport report, want api.Errno) {
	t.Helper()
	i, r, e := tape.Read(b)
	if !reflect.DeepEqual(i, image{}) || !sameReport(r, wantReport) || e != want {
		t.Errorf("%s: Read: %v, %v, %v, not %v, %v", what, i, r, e, wantReport, want)
	}
}

// The chapter's examples.
func TestExamples(t *testing.T) {
	b := packed(t, end(1, 0x600))
	if first := []byte{0x55, 0xaa, 0x55, 0xa7, 0x4f, 0, 0, 0, 0x54, 0, 0, 0}; !bytes.Equal(b[:12], first) {
		t.Errorf("% x, not % x", b[:12], first)
	}
	b = written(t, image{Entry: 5}, 1)
	if len(b) != 260 {
		t.Errorf("%d bytes", len(b))
	}
	wantNoWrite(t, image{Entry: 5}, 5, api.ErrArg)
	for i := range 8 {
		b[4+2+4*(3*i+5)] ^= 0xff
	}
	wantRead(t, "8 bytes of the third word", b, image{Entry: 5}, report{Frames: 1, Mended: 8})
	b[4+2] ^= 1
	wantNoRead(t, "9 bytes of the third word", b, report{Bad: 260}, api.ErrTape)
	wantNoRead(t, "nothing", nil, report{}, api.ErrTape)
	b = written(t, image{segments{at(0x200, many(300)...)}, 0x200}, 1)
	wantNoRead(t, "without the first", b[260:], report{Frames: 2, Lost: []int{0}}, api.ErrTape)
}

// Example 7 of the whole document.
func TestExampleOfTheWhole(t *testing.T) {
	i := image{segments{at(0x1000, 0xca, 0xd0, 0xfd, 0)}, 0x1000}
	b := written(t, i, 1)
	if len(b) != 2*260 {
		t.Fatal(len(b))
	}
	b = turned(rand.New(rand.NewSource(7)), b, append(from(4, 32), from(260+100, 32)...)...)
	wantRead(t, "32 neighbouring bytes", b, i, report{Frames: 2, Mended: 64})
}
